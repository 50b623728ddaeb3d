/- Slots of an index, and what they say: which key has which value; where a search ends; what becomes of it when a slot is filled, given another value, or left. -/
import Derived.Test.YtdiggfiapbifpaaIx
namespace Go.Proofs.Ytdiggfiapbifpaa.Ix

theorem least {P : Nat → Prop} : ∀ n, P n → ∃ d, P d ∧ ∀ e, e < d → ¬ P e := by
  intro n
  induction n using Nat.strongRecOn with
  | _ n ih =>
    intro h
    by_cases hx : ∃ e, e < n ∧ P e
    · obtain ⟨e, h1, h2⟩ := hx
      exact ih e h1 h2
    · exact ⟨n, h, fun e he hp => hx ⟨e, he, hp⟩⟩
theorem reach (h z n : Nat) (hz : z < n) : ∃ d, d < n ∧ (h + d) % n = z := by
  refine ⟨(z + (n - h % n)) % n, Nat.mod_lt _ (by omega), ?_⟩
  have h1 : h % n < n := Nat.mod_lt _ (by omega)
  have h2 := Nat.div_add_mod h n
  have e : h + (z + (n - h % n)) = z + n * (h / n + 1) := by
    rw [Nat.mul_add]
    omega
  rw [Nat.add_mod_mod, e, Nat.add_mul_mod_self_left, Nat.mod_eq_of_lt hz]
/-- how far behind its own place -/
def dist (n h a : Nat) : Nat := (a + (n - h % n)) % n
theorem dist_at (n h d : Nat) (hd : d < n) : dist n h ((h + d) % n) = d := by
  have h1 : h % n < n := Nat.mod_lt _ (by omega)
  have h2 := Nat.div_add_mod h n
  unfold dist
  have e : h + d + (n - h % n) = d + n * (h / n + 1) := by
    rw [Nat.mul_add]
    omega
  rw [Nat.mod_add_mod, e, Nat.add_mul_mod_self_left, Nat.mod_eq_of_lt hd]
theorem next_place (h d n : Nat) : ((h + d) % n + 1) % n = (h + (d + 1)) % n := by
  rw [Nat.mod_add_mod, Nat.add_assoc]
def put {α : Type} (m : ByteArray → Option α) (k : ByteArray) (v : Option α) : ByteArray → Option α := fun x => if x = k then v else m x
section
variable {α : Type} {hs : ByteArray → Nat} {sl : List (Sl α)} {used count b : Nat} {m : ByteArray → Option α}
theorem put_same (k : ByteArray) (v : Option α) : put m k v k = v := by simp [put]
theorem put_far {k x : ByteArray} (h : x ≠ k) (v : Option α) : put m k v x = m x := by simp [put, h]

structure Ok (hs : ByteArray → Nat) (sl : List (Sl α)) (used count b : Nat) (m : ByteArray → Option α) : Prop where
  st : ∀ (i : Nat) (s : Sl α), sl[i]? = some s → s.st ≤ 2
  size : ∀ (i : Nat) (s : Sl α), sl[i]? = some s → s.key.size ≤ 1000
  used_ : sl.countP (fun s => s.st != 0) = used
  count_ : sl.countP (fun s => s.st == 2) = count
  room : sl = [] ∨ 2 * used < sl.length
  big : sl.length ≤ 4 * (b + 1)
  few : count ≤ b
  way : ∀ (i : Nat) (s : Sl α), sl[i]? = some s → s.st = 2 → ∃ d, i = (hs s.key + d) % sl.length ∧ ∀ e, e < d → ∃ t : Sl α, sl[(hs s.key + e) % sl.length]? = some t ∧ t.st ≠ 0
  once : ∀ (i j : Nat) (s t : Sl α), sl[i]? = some s → sl[j]? = some t → s.st = 2 → t.st = 2 → s.key = t.key → i = j
  map : ∀ k v, m k = some v ↔ ∃ i : Nat, ∃ s : Sl α, sl[i]? = some s ∧ s.st = 2 ∧ s.key = k ∧ s.val = v

theorem Ok.empty (hs : ByteArray → Nat) (b : Nat) : Ok hs ([] : List (Sl α)) 0 0 b (fun _ => none) :=
  ⟨by simp, by simp, rfl, rfl, .inl rfl, by simp, Nat.zero_le _, by simp, by simp, by simp⟩
theorem Ok.more (o : Ok hs sl used count b m) {b' : Nat} (h : b ≤ b') : Ok hs sl used count b' m :=
  ⟨o.st, o.size, o.used_, o.count_, o.room, Nat.le_trans o.big (by omega), Nat.le_trans o.few h, o.way, o.once, o.map⟩
theorem Ok.le (o : Ok hs sl used count b m) : count ≤ used := by
  rw [← o.count_, ← o.used_]
  apply List.countP_mono_left
  intro s _ h
  simp at h ⊢
  omega
theorem Ok.made (hs : ByteArray → Nat) (z : α) (n b : Nat) (h0 : 0 < n) (hn : n ≤ 4 * (b + 1)) : Ok hs (List.replicate n (Sl.none z)) 0 0 b (fun _ => none) := by
  have at_ : ∀ (i : Nat) (s : Sl α), (List.replicate n (Sl.none z))[i]? = some s → s = Sl.none z := by
    intro i s h
    rw [List.getElem?_replicate] at h
    split at h
    · exact (Option.some.inj h).symm
    · cases h
  refine ⟨?_, ?_, ?_, ?_, .inr (by simpa using h0), by simpa using hn, Nat.zero_le _, ?_, ?_, ?_⟩
  · intro i s h; rw [at_ i s h]; exact Nat.zero_le _
  · intro i s h; rw [at_ i s h]; exact Nat.zero_le _
  · rw [List.countP_replicate]; rfl
  · rw [List.countP_replicate]; rfl
  · intro i s h h2; rw [at_ i s h] at h2; cases h2
  · intro i j s t h _ h2; rw [at_ i s h] at h2; cases h2
  · intro k v
    constructor
    · intro h; cases h
    · rintro ⟨i, s, h, h2, _⟩; rw [at_ i s h] at h2; cases h2
/-- somewhere nothing lies -/
theorem Ok.free (o : Ok hs sl used count b m) (h : sl ≠ []) : ∃ z : Nat, ∃ s : Sl α, sl[z]? = some s ∧ s.st = 0 := by
  rcases Classical.em (∃ s : Sl α, s ∈ sl ∧ s.st = 0) with ⟨s, hm, h0⟩ | hn
  · obtain ⟨i, hi⟩ := List.mem_iff_getElem?.1 hm
    exact ⟨i, s, hi, h0⟩
  · have hall : sl.countP (fun s => s.st != 0) = sl.length := by
      rw [List.countP_eq_length]
      intro s hm
      simp
      intro e
      exact hn ⟨s, hm, e⟩
    rw [o.used_] at hall
    rcases o.room with e | e
    · exact absurd e h
    · omega
theorem lt_of_at {β : Type} {l : List β} {i : Nat} {x : β} (h : l[i]? = some x) : i < l.length := by
  rcases Nat.lt_or_ge i l.length with h1 | h1
  · exact h1
  · rw [List.getElem?_eq_none h1] at h; cases h
/-- where a search ends -/
theorem Ok.stop (o : Ok hs sl used count b m) (h : sl ≠ []) (k : ByteArray) : ∃ d, ∃ s : Sl α, d < sl.length ∧ sl[(hs k + d) % sl.length]? = some s ∧ (s.st = 0 ∨ (s.st = 2 ∧ s.key = k)) ∧
    ∀ e, e < d → ∃ t : Sl α, sl[(hs k + e) % sl.length]? = some t ∧ t.st ≠ 0 ∧ ¬ (t.st = 2 ∧ t.key = k) := by
  have hl : 0 < sl.length := List.length_pos_iff.2 h
  obtain ⟨z, s, hz, h0⟩ := o.free h
  obtain ⟨d0, hdl, hd0⟩ := reach (hs k) z sl.length (lt_of_at hz)
  obtain ⟨d, ⟨s1, h1, h2⟩, h3⟩ := least (P := fun d => ∃ s : Sl α, sl[(hs k + d) % sl.length]? = some s ∧ (s.st = 0 ∨ (s.st = 2 ∧ s.key = k))) d0 ⟨s, by rw [hd0]; exact hz, .inl h0⟩
  have hle : d < sl.length := by
    rcases Nat.lt_or_ge d0 d with c | c
    · exact absurd ⟨_, by rw [hd0]; exact hz, .inl h0⟩ (h3 d0 c)
    · omega
  refine ⟨d, s1, hle, h1, h2, fun e he => ?_⟩
  have hlt : (hs k + e) % sl.length < sl.length := Nat.mod_lt _ hl
  refine ⟨sl[(hs k + e) % sl.length], List.getElem?_eq_getElem hlt, fun h4 => h3 e he ⟨_, List.getElem?_eq_getElem hlt, .inl h4⟩, fun h4 => h3 e he ⟨_, List.getElem?_eq_getElem hlt, .inr h4⟩⟩
/-- where a key lies -/
def Hit (sl : List (Sl α)) (k : ByteArray) (j : Nat) : Prop := ∃ s : Sl α, sl[j]? = some s ∧ s.st = 2 ∧ s.key = k
/-- a slot that may be filled: of a key whose own place is h -/
def Free (sl : List (Sl α)) (h j : Nat) : Prop := ∃ (s : Sl α) (d : Nat), sl[j]? = some s ∧ s.st < 2 ∧ j = (h + d) % sl.length ∧ ∀ e, e < d → ∃ t : Sl α, sl[(h + e) % sl.length]? = some t ∧ t.st ≠ 0
/-- an empty slot ahead of the key: it is not there -/
theorem Ok.miss (o : Ok hs sl used count b m) {k : ByteArray} {d : Nat} {s : Sl α} (h1 : sl[(hs k + d) % sl.length]? = some s) (h0 : s.st = 0)
    (h2 : ∀ e, e < d → ∃ t : Sl α, sl[(hs k + e) % sl.length]? = some t ∧ t.st ≠ 0 ∧ ¬ (t.st = 2 ∧ t.key = k)) : m k = none := by
  cases hm : m k with
  | none => rfl
  | some v =>
    obtain ⟨i, t, hi, ht, hk, -⟩ := (o.map k v).1 hm
    obtain ⟨d', hd, hw⟩ := o.way i t hi ht
    rw [hk] at hd hw
    rcases Nat.lt_trichotomy d' d with c | c | c
    · obtain ⟨u, hu, _, h4⟩ := h2 d' c
      rw [← hd, hi] at hu
      cases hu
      exact absurd ⟨ht, hk⟩ h4
    · subst c
      rw [← hd, hi] at h1
      cases h1
      omega
    · obtain ⟨u, hu, h4⟩ := hw d c
      rw [h1] at hu
      cases hu
      exact absurd h0 h4
theorem Ok.hit (o : Ok hs sl used count b m) {j : Nat} {s : Sl α} (h : sl[j]? = some s) (h2 : s.st = 2) : m s.key = some s.val := (o.map _ _).2 ⟨j, s, h, h2, rfl, rfl⟩
theorem Ok.hit_at (o : Ok hs sl used count b m) {k : ByteArray} {j : Nat} (h : Hit sl k j) : ∃ s : Sl α, sl[j]? = some s ∧ s.st = 2 ∧ s.key = k ∧ m k = some s.val := by
  obtain ⟨s, h1, h2, h3⟩ := h
  exact ⟨s, h1, h2, h3, by rw [← h3]; exact o.hit h1 h2⟩
theorem set_at {β : Type} {l : List β} {j : Nat} {s x : β} (h : l[j]? = some s) (i : Nat) : (l.set j x)[i]? = if j = i then some x else l[i]? := by
  rw [List.getElem?_set]
  have := lt_of_at h
  by_cases e : j = i
  · subst e; simp [this]
  · simp [e]
/-- what is not empty stays so -/
theorem way_set {j : Nat} {s x : Sl α} (h : sl[j]? = some s) (hx : x.st ≠ 0) {q : Nat} (hq : ∃ t : Sl α, sl[q]? = some t ∧ t.st ≠ 0) : ∃ t : Sl α, (sl.set j x)[q]? = some t ∧ t.st ≠ 0 := by
  rw [set_at h]
  by_cases e : j = q
  · exact ⟨x, by simp [e], hx⟩
  · obtain ⟨t, h1, h2⟩ := hq
    exact ⟨t, by simp [e, h1], h2⟩
theorem count_set {P : Sl α → Bool} {j : Nat} {s x : Sl α} (h : sl[j]? = some s) : (sl.set j x).countP P + (if P s then 1 else 0) = sl.countP P + if P x then 1 else 0 := by
  have hj := lt_of_at h
  have e : sl[j] = s := by rw [List.getElem?_eq_getElem hj] at h; exact Option.some.inj h
  have hc := List.countP_set (p := P) (l := sl) (i := j) (a := x) hj
  rw [e] at hc
  have hpos : P s = true → 0 < sl.countP P := fun hp => List.countP_pos_iff.2 ⟨s, List.mem_of_getElem? h, hp⟩
  by_cases hp : P s = true
  · have := hpos hp
    rw [hc]
    simp only [hp, if_true]
    split <;> omega
  · rw [hc]
    simp only [hp]
    simp
/-- a slot is filled -/
theorem Ok.lay (o : Ok hs sl used count b m) {j d : Nat} {s : Sl α} {k : ByteArray} (v : α) (h : sl[j]? = some s) (h2 : s.st < 2) (hd : j = (hs k + d) % sl.length) (hw : ∀ e, e < d → ∃ t : Sl α, sl[(hs k + e) % sl.length]? = some t ∧ t.st ≠ 0)
    (hm : m k = none) (hr : 2 * (used + 1) < sl.length) (hb : count + 1 ≤ b) (hk : k.size ≤ 1000) :
    Ok hs (sl.set j ⟨2, k, v⟩) (if s.st = 0 then used + 1 else used) (count + 1) b (put m k (some v)) := by
  have hold : ∀ (i : Nat) (t : Sl α), (sl.set j ⟨2, k, v⟩)[i]? = some t → (i = j ∧ t = ⟨2, k, v⟩) ∨ (i ≠ j ∧ sl[i]? = some t) := by
    intro i t ht
    rw [set_at h] at ht
    by_cases e : j = i
    · simp [e] at ht
      exact .inl ⟨e.symm, ht.symm⟩
    · simp [e] at ht
      exact .inr ⟨fun x => e x.symm, ht⟩
  have hnk : ∀ (i : Nat) (t : Sl α), sl[i]? = some t → t.st = 2 → t.key ≠ k := by
    intro i t ht h2' e
    have := o.hit ht h2'
    rw [e, hm] at this
    cases this
  refine ⟨?_, ?_, ?_, ?_, ?_, by simpa using o.big, hb, ?_, ?_, ?_⟩
  · intro i t ht
    rcases hold i t ht with ⟨_, rfl⟩ | ⟨_, h'⟩
    · exact Nat.le_refl _
    · exact o.st i t h'
  · intro i t ht
    rcases hold i t ht with ⟨_, rfl⟩ | ⟨_, h'⟩
    · exact hk
    · exact o.size i t h'
  · have := count_set (P := fun s => s.st != 0) (x := ⟨2, k, v⟩) h
    rw [o.used_] at this
    by_cases e : s.st = 0
    · simp [e] at this ⊢; omega
    · simp [e] at this ⊢; omega
  · have := count_set (P := fun s => s.st == 2) (x := ⟨2, k, v⟩) h
    rw [o.count_] at this
    have e : ¬ s.st = 2 := by omega
    simp [e] at this ⊢; omega
  · right
    rw [List.length_set]
    split <;> omega
  · intro i t ht h2'
    rw [List.length_set]
    rcases hold i t ht with ⟨rfl, rfl⟩ | ⟨_, h'⟩
    · exact ⟨d, hd, fun e he => way_set h (by simp) (hw e he)⟩
    · obtain ⟨d', e1, e2⟩ := o.way i t h' h2'
      exact ⟨d', e1, fun e he => way_set h (by simp) (e2 e he)⟩
  · intro i i' t t' ht ht' h2' h2'' e
    rcases hold i t ht with ⟨rfl, rfl⟩ | ⟨_, h'⟩ <;> rcases hold i' t' ht' with ⟨rfl, rfl⟩ | ⟨_, h''⟩
    · rfl
    · exact absurd e.symm (hnk _ _ h'' h2'')
    · exact absurd e (hnk _ _ h' h2')
    · exact o.once i i' t t' h' h'' h2' h2'' e
  · intro x u
    by_cases e : x = k
    · subst e
      rw [put_same]
      constructor
      · intro hu
        cases hu
        exact ⟨j, ⟨2, x, v⟩, by rw [set_at h]; simp, rfl, rfl, rfl⟩
      · rintro ⟨i, t, ht, h2', hk', hv⟩
        rcases hold i t ht with ⟨_, rfl⟩ | ⟨_, h'⟩
        · rw [← hv]
        · exact absurd hk' (hnk _ _ h' h2')
    · rw [put_far e, o.map]
      constructor
      · rintro ⟨i, t, ht, h2', hk', hv⟩
        refine ⟨i, t, ?_, h2', hk', hv⟩
        rw [set_at h]
        have : ¬ j = i := by
          rintro rfl
          rw [h] at ht
          cases ht
          omega
        simp [this, ht]
      · rintro ⟨i, t, ht, h2', hk', hv⟩
        rcases hold i t ht with ⟨_, rfl⟩ | ⟨_, h'⟩
        · exact absurd hk'.symm e
        · exact ⟨i, t, h', h2', hk', hv⟩
/-- a key that is there has another value -/
theorem Ok.over (o : Ok hs sl used count b m) {j : Nat} {s : Sl α} (v : α) (h : sl[j]? = some s) (h2 : s.st = 2) : Ok hs (sl.set j { s with val := v }) used count b (put m s.key (some v)) := by
  have hold : ∀ (i : Nat) (t : Sl α), (sl.set j { s with val := v })[i]? = some t → (i = j ∧ t = { s with val := v }) ∨ (i ≠ j ∧ sl[i]? = some t) := by
    intro i t ht
    rw [set_at h] at ht
    by_cases e : j = i
    · simp [e] at ht
      exact .inl ⟨e.symm, ht.symm⟩
    · simp [e] at ht
      exact .inr ⟨fun x => e x.symm, ht⟩
  refine ⟨?_, ?_, ?_, ?_, ?_, by simpa using o.big, o.few, ?_, ?_, ?_⟩
  · intro i t ht
    rcases hold i t ht with ⟨_, rfl⟩ | ⟨_, h'⟩
    · exact o.st j s h
    · exact o.st i t h'
  · intro i t ht
    rcases hold i t ht with ⟨_, rfl⟩ | ⟨_, h'⟩
    · exact o.size j s h
    · exact o.size i t h'
  · have := count_set (P := fun s => s.st != 0) (x := { s with val := v }) h
    rw [o.used_] at this
    simp only at this
    split at this <;> omega
  · have := count_set (P := fun s => s.st == 2) (x := { s with val := v }) h
    rw [o.count_] at this
    simp only at this
    split at this <;> omega
  · rw [List.length_set]
    rcases o.room with e | e
    · subst e; simp at h
    · exact .inr e
  · intro i t ht h2'
    rw [List.length_set]
    rcases hold i t ht with ⟨rfl, rfl⟩ | ⟨_, h'⟩
    · obtain ⟨d', e1, e2⟩ := o.way i s h h2
      exact ⟨d', e1, fun e he => way_set h (by simp [h2]) (e2 e he)⟩
    · obtain ⟨d', e1, e2⟩ := o.way i t h' h2'
      exact ⟨d', e1, fun e he => way_set h (by simp [h2]) (e2 e he)⟩
  · intro i i' t t' ht ht' h2' h2'' e
    rcases hold i t ht with ⟨rfl, rfl⟩ | ⟨_, h'⟩ <;> rcases hold i' t' ht' with ⟨rfl, rfl⟩ | ⟨_, h''⟩
    · rfl
    · exact o.once _ _ s t' h h'' h2 h2'' e
    · exact o.once _ _ t s h' h h2' h2 e
    · exact o.once i i' t t' h' h'' h2' h2'' e
  · intro x u
    by_cases e : x = s.key
    · subst e
      rw [put_same]
      constructor
      · intro hu
        cases hu
        exact ⟨j, { s with val := v }, by rw [set_at h]; simp, h2, rfl, rfl⟩
      · rintro ⟨i, t, ht, h2', hk', hv⟩
        rcases hold i t ht with ⟨_, rfl⟩ | ⟨hne, h'⟩
        · rw [← hv]
        · exact absurd (o.once _ _ _ _ h' h h2' h2 hk') hne
    · rw [put_far e, o.map]
      constructor
      · rintro ⟨i, t, ht, h2', hk', hv⟩
        refine ⟨i, t, ?_, h2', hk', hv⟩
        rw [set_at h]
        have : ¬ j = i := by
          rintro rfl
          rw [h] at ht
          cases ht
          exact e hk'.symm
        simp [this, ht]
      · rintro ⟨i, t, ht, h2', hk', hv⟩
        rcases hold i t ht with ⟨_, rfl⟩ | ⟨_, h'⟩
        · exact absurd hk'.symm e
        · exact ⟨i, t, h', h2', hk', hv⟩
/-- a key goes: a mark stays -/
theorem Ok.gone (o : Ok hs sl used count b m) {j : Nat} {s : Sl α} (z : α) (h : sl[j]? = some s) (h2 : s.st = 2) : Ok hs (sl.set j ⟨1, ⟨#[]⟩, z⟩) used (count - 1) b (put m s.key none) ∧ 1 ≤ count := by
  have hold : ∀ (i : Nat) (t : Sl α), (sl.set j ⟨1, ⟨#[]⟩, z⟩)[i]? = some t → (i = j ∧ t = ⟨1, ⟨#[]⟩, z⟩) ∨ (i ≠ j ∧ sl[i]? = some t) := by
    intro i t ht
    rw [set_at h] at ht
    by_cases e : j = i
    · simp [e] at ht
      exact .inl ⟨e.symm, ht.symm⟩
    · simp [e] at ht
      exact .inr ⟨fun x => e x.symm, ht⟩
  have hc := count_set (P := fun s => s.st == 2) (x := ⟨1, ⟨#[]⟩, z⟩) h
  rw [o.count_] at hc
  simp [h2] at hc
  refine ⟨⟨?_, ?_, ?_, ?_, ?_, by simpa using o.big, by have := o.few; omega, ?_, ?_, ?_⟩, by omega⟩
  · intro i t ht
    rcases hold i t ht with ⟨_, rfl⟩ | ⟨_, h'⟩
    · exact Nat.le_succ _
    · exact o.st i t h'
  · intro i t ht
    rcases hold i t ht with ⟨_, rfl⟩ | ⟨_, h'⟩
    · exact Nat.zero_le _
    · exact o.size i t h'
  · have := count_set (P := fun s => s.st != 0) (x := ⟨1, ⟨#[]⟩, z⟩) h
    rw [o.used_] at this
    simp [h2] at this
    exact this
  · omega
  · rw [List.length_set]
    rcases o.room with e | e
    · subst e; simp at h
    · exact .inr e
  · intro i t ht h2'
    rw [List.length_set]
    rcases hold i t ht with ⟨rfl, rfl⟩ | ⟨_, h'⟩
    · cases h2'
    · obtain ⟨d', e1, e2⟩ := o.way i t h' h2'
      exact ⟨d', e1, fun e he => way_set h (by simp) (e2 e he)⟩
  · intro i i' t t' ht ht' h2' h2'' e
    rcases hold i t ht with ⟨rfl, rfl⟩ | ⟨_, h'⟩ <;> rcases hold i' t' ht' with ⟨rfl, rfl⟩ | ⟨_, h''⟩
    · rfl
    · cases h2'
    · cases h2''
    · exact o.once i i' t t' h' h'' h2' h2'' e
  · intro x u
    by_cases e : x = s.key
    · subst e
      rw [put_same]
      constructor
      · intro hu; cases hu
      · rintro ⟨i, t, ht, h2', hk', hv⟩
        rcases hold i t ht with ⟨_, rfl⟩ | ⟨hne, h'⟩
        · cases h2'
        · exact absurd (o.once _ _ _ _ h' h h2' h2 hk') hne
    · rw [put_far e, o.map]
      constructor
      · rintro ⟨i, t, ht, h2', hk', hv⟩
        refine ⟨i, t, ?_, h2', hk', hv⟩
        rw [set_at h]
        have : ¬ j = i := by
          rintro rfl
          rw [h] at ht
          cases ht
          exact e hk'.symm
        simp [this, ht]
      · rintro ⟨i, t, ht, h2', hk', hv⟩
        rcases hold i t ht with ⟨_, rfl⟩ | ⟨_, h'⟩
        · cases h2'
        · exact ⟨i, t, h', h2', hk', hv⟩
/-- what the first i slots say -/
def Part (sl : List (Sl α)) (i : Nat) (m' : ByteArray → Option α) : Prop := ∀ k v, m' k = some v ↔ ∃ j : Nat, ∃ s : Sl α, j < i ∧ sl[j]? = some s ∧ s.st = 2 ∧ s.key = k ∧ s.val = v
theorem Part.zero (sl : List (Sl α)) : Part sl 0 (fun _ => none) := by
  intro k v
  constructor
  · intro h; cases h
  · rintro ⟨j, s, h, _⟩; omega
theorem Part.skip {i : Nat} {m' : ByteArray → Option α} {s : Sl α} (h : Part sl i m') (hi : sl[i]? = some s) (h2 : s.st ≠ 2) : Part sl (i + 1) m' := by
  intro k v
  rw [h k v]
  constructor
  · rintro ⟨j, t, hj, r⟩; exact ⟨j, t, by omega, r⟩
  · rintro ⟨j, t, hj, ht, h2', r⟩
    refine ⟨j, t, ?_, ht, h2', r⟩
    rcases Nat.lt_or_ge j i with c | c
    · exact c
    · have e : j = i := by omega
      subst e
      rw [hi] at ht
      cases ht
      exact absurd h2' h2
theorem Part.fresh {i : Nat} {m' : ByteArray → Option α} {s : Sl α} (o : Ok hs sl used count b m) (h : Part sl i m') (hi : sl[i]? = some s) (h2 : s.st = 2) : m' s.key = none := by
  cases hm : m' s.key with
  | none => rfl
  | some v =>
    obtain ⟨j, t, hj, ht, h2', hk, _⟩ := (h _ _).1 hm
    have := o.once j i t s ht hi h2' h2 hk
    omega
theorem Part.take {i : Nat} {m' : ByteArray → Option α} {s : Sl α} (o : Ok hs sl used count b m) (h : Part sl i m') (hi : sl[i]? = some s) (h2 : s.st = 2) : Part sl (i + 1) (put m' s.key (some s.val)) := by
  intro k v
  by_cases e : k = s.key
  · subst e
    rw [put_same]
    constructor
    · intro hv
      cases hv
      exact ⟨i, s, by omega, hi, h2, rfl, rfl⟩
    · rintro ⟨j, t, hj, ht, h2', hk, hv⟩
      have := o.once j i t s ht hi h2' h2 hk
      subst this
      rw [hi] at ht
      cases ht
      rw [hv]
  · rw [put_far e, h k v]
    constructor
    · rintro ⟨j, t, hj, r⟩; exact ⟨j, t, by omega, r⟩
    · rintro ⟨j, t, hj, ht, h2', hk, hv⟩
      refine ⟨j, t, ?_, ht, h2', hk, hv⟩
      rcases Nat.lt_or_ge j i with c | c
      · exact c
      · have e2 : j = i := by omega
        subst e2
        rw [hi] at ht
        cases ht
        exact absurd hk.symm e
theorem Part.all {m' : ByteArray → Option α} (o : Ok hs sl used count b m) (h : Part sl sl.length m') : m' = m := by
  funext k
  apply Option.ext
  intro v
  rw [h k v, o.map k v]
  constructor
  · rintro ⟨j, t, hj, r⟩; exact ⟨j, t, r⟩
  · rintro ⟨j, t, ht, r⟩; exact ⟨j, t, lt_of_at ht, ht, r⟩
def takenIn (sl : List (Sl α)) (i : Nat) : Nat := (sl.take i).countP (fun s => s.st == 2)
theorem takenIn_le (o : Ok hs sl used count b m) (i : Nat) : takenIn sl i ≤ count := by
  rw [← o.count_]
  exact List.Sublist.countP_le (List.take_sublist _ _)
theorem takenIn_all (o : Ok hs sl used count b m) : takenIn sl sl.length = count := by
  rw [← o.count_, takenIn, List.take_length]
theorem takenIn_skip {i : Nat} {s : Sl α} (hi : sl[i]? = some s) (h2 : s.st ≠ 2) : takenIn sl (i + 1) = takenIn sl i := by
  unfold takenIn
  rw [List.take_add_one, hi, List.countP_append]
  simp [h2]
theorem takenIn_take {i : Nat} {s : Sl α} (hi : sl[i]? = some s) (h2 : s.st = 2) : takenIn sl (i + 1) = takenIn sl i + 1 := by
  unfold takenIn
  rw [List.take_add_one, hi, List.countP_append]
  simp [h2]
end
end Go.Proofs.Ytdiggfiapbifpaa.Ix
