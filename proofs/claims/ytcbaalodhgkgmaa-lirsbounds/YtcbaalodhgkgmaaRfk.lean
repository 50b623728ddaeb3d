/- The document's machine beside an engine's lists: each call. -/
import Derived.Test.YtcbaalodhgkgmaaRfj
import Derived.Test.YtcbaalodhgkgmaaEm
namespace Go.Proofs.Ytcbaalodhgkgmaa
open Go.RowKit

/-- the document's machine at x, as an engine's lists -/
def RE (x : Nat) (s : Stt) (D : Nat → Prop) (w : World) : Prop := RM x (cel s) D w
/-- what holds of its rows: none is long -/
def Small (s : Stt) : Prop := A.Ok s
theorem Small.of {s : Stt} (h : A.Ok s) : Small s := h
theorem slOf {s : Stt} (h : A.Ok s) : Sl (cel s) := by
  have h1 := h.small
  have h2 := h.res
  have h3 := h.gho
  have h4 := h.hi
  have h5 := h.lo
  rw [A.keys_length] at h2
  exact ⟨by show (cels s.t1 s.b1 s.t2).length ≤ 4000; rw [cels_len]; omega, by show s.b1.length ≤ 4000; omega, h4, h5⟩
section
variable {D D' : Nat → Prop} {w w' : World} {x : Nat} {s : Stt}
theorem RE.below (H : RE x s D w) (hb : Below w.heap.size w w') : RE x s D w' := RM.below H hb
theorem RE.kept (H : RE x s D w) (hk : Keeps D' w w') (hd : ∀ k, D k → ¬ D' k) : RE x s D w' := RM.kept H hk hd
theorem RE.wide (H : RE x s D w) (hD : ∀ k, k < w.heap.size → D k → D' k) : RE x s D' w := RM.wide H hD
theorem RE.narrow (H : RE x s D w) : RE x s (fun k => D k ∧ k < w.heap.size) w := RM.narrow H
theorem cel_inn (s : Stt) (k : ByteArray) : hasR (cel s) k = inn k (A.keys s) := by
  by_cases h : k ∈ A.keys s
  · rw [inn_yes h]; exact cel_has.2 h
  · rw [inn_no h]; exact cel_hasnt h
theorem rhas_key (H : RE x s D w) (hok : A.Ok s) (k : ByteArray) : Calls Try.prog 40 #[.pointer (some ⟨x, 0, none⟩), .string k] w fun e w' => e = .returned (.bool (inn k (A.keys s))) ∧ w' = w := by
  have := rhas_any H (slOf hok).sm k
  rw [cel_inn] at this
  exact this
theorem rroom_any (H : RE x s D w) : Calls Try.prog 23 #[.pointer (some ⟨x, 0, none⟩)] w fun e w' => e = .returned (.int .i64 (s.c : Nat)) ∧ w' = w := mroom_any H
theorem rlen_any (H : RE x s D w) (hok : A.Ok s) : Calls Try.prog 16 #[.pointer (some ⟨x, 0, none⟩)] w fun e w' => e = .returned (.int .i64 ((A.keys s).length : Nat)) ∧ ∃ q, w' = w.drewN q := by
  have := mlen_any H (slOf hok).sm
  rw [show (cel s).q.length + C.cnt 104 (cel s).s = lenR (cel s) from rfl, cel_len] at this
  exact this
theorem rnew_any (r : Int) (hD : ∀ k, w.heap.size ≤ k → D k) :
    Calls Try.prog 11 #[.int .i64 r] w fun e w' => ∃ x, e = .returned (.pointer (some ⟨x, 0, none⟩)) ∧ RE x (A.start (heldC r)) D w' ∧ Keeps D w w' := mnew_any r hD
theorem pr_twice (l : List C.It) : C.pr (C.pr l) = C.pr l := by
  induction l with
  | nil => rfl
  | cons z r ih =>
    by_cases h : z.n = 104
    · rw [C.pr_stop h, C.pr_stop h]
    · rw [C.pr_step h]; exact ih
theorem forgot_same {c : Nat} {l l' : List C.It} (h : C.Forgot c l l') (hc : C.cnt 103 l ≤ c) : l' = l := by
  cases h with
  | done _ => rfl
  | step h1 _ _ => omega
/-- one goes -/
theorem cel_goes (h : A.Ok s) (hk : (A.keys s).length ≠ 0) {k : ByteArray} {r : List ByteArray} {l : List C.It} (hq : (readyR (cel s)).q = k :: r) (hf : C.Forgot s.c (C.gh (readyR (cel s)).s k) l) :
    ∃ s', A.goes s = ([k], s') ∧ (⟨C.pr l, A.cut (k :: r) k, s.c⟩ : Rs) = cel s' := by
  have fin : ∀ s2 : Stt, A.Base s2 → s2.c = s.c → readyR (cel s) = cel s2 → (⟨C.pr l, A.cut (k :: r) k, s.c⟩ : Rs) = cel (A.prune (A.forget (A.out s2 k r))) := by
    intro s2 hb hc e
    rw [e] at hq hf
    have hq2 : s2.b1 = k :: r := hq
    obtain ⟨o1, -, -, -, -⟩ := A.out_is hb hq2
    obtain ⟨f1, -⟩ := A.forget_lt o1
    have hg : C.gh (cel s2).s k = (cel (A.out s2 k r)).s := by
      rw [A.out_more]
      exact cels_gh hb.ot hq2 hb.oq
    rw [hg, ← hc] at hf
    have hl := cel_forget o1 hf
    have hoq := hb.oq
    rw [hq2] at hoq
    rw [cel_prune f1.base.ot, hl, A.cut_head hoq]
    show (⟨C.pr (cel (A.forget (A.out s2 k r))).s, r, s.c⟩ : Rs) = ⟨C.pr (cel (A.forget (A.out s2 k r))).s, (A.forget (A.out s2 k r)).b1, (A.forget (A.out s2 k r)).c⟩
    rw [f1.b1, f1.c, ← hc]
    rfl
  by_cases hb : s.b1 = []
  · cases ht : s.t1 with
    | nil =>
      exfalso
      rw [A.keys_length, hb] at hk
      unfold A.hots at hk
      rw [ht] at hk
      simp at hk
    | cons k0 r0 =>
      have hh := h.bot k0 r0 ht
      obtain ⟨e, h1, h2, h3⟩ := A.demote_is h.toBase ht hh
      have hr : readyR (cel s) = cel (A.prune (A.demote s)) := by
        unfold readyR
        exact (if_pos hb).trans (cel_cools h.toBase ht hh)
      have hpl := (A.prune_lt h1).1
      have hq2 : (A.prune (A.demote s)).b1 = k :: r := by rw [hr] at hq; exact hq
      have hq3 : [k0] = k :: r := by rw [← hq2, hpl.b1, e, hb]; rfl
      injection hq3 with e1 e2
      subst e1 e2
      refine ⟨_, ?_, fin _ hpl.base (by rw [hpl.c, e]) hr⟩
      have hrd : (A.ready s).b1 = [k0] := by unfold A.ready; rw [if_pos hb, e, hb]; rfl
      rw [A.goes_is hrd, A.goes_pruned h hb ht]
      unfold A.ready
      rw [if_pos hb]
  · have hr : readyR (cel s) = cel s := by
      unfold readyR
      exact if_neg hb
    have hq2 : s.b1 = k :: r := by rw [hr] at hq; exact hq
    have hrd : A.ready s = s := by unfold A.ready; rw [if_neg hb]
    refine ⟨_, ?_, fin _ h.toBase rfl hr⟩
    rw [A.goes_is (by rw [hrd]; exact hq2), hrd]
theorem revict_any (H : RE x s D w) (hok : A.Ok s) (hD : ∀ k, w.heap.size ≤ k → D k) :
    Calls Try.prog 39 #[.pointer (some ⟨x, 0, none⟩)] w fun e w' => e = .returned (wentV (A.evict s).1) ∧ RE x (A.evict s).2 D w' ∧ Keeps D w w' := by
  by_cases h0 : (A.keys s).length = 0
  · rw [A.evi_no h0]
    refine (revi_no H (slOf hok).sm (by rw [cel_len]; exact h0)).mono ?_
    rintro e w' ⟨rfl, q, rfl⟩
    exact ⟨rfl, H.below (below_drewN (Below.refl _ w) q), .of_below (below_drewN (Below.refl _ w) q)⟩
  · have e0 : A.evict s = A.goes s := by unfold A.evict; rw [if_neg h0]
    rw [e0]
    refine (rgoes_any H (slOf hok).sm hD (by rw [cel_len]; omega)).mono ?_
    rintro e w' ⟨k, r, l, hq, hf, rfl, h2, hk⟩
    obtain ⟨s', e1, e2⟩ := cel_goes hok h0 hq hf
    rw [e1]
    refine ⟨rfl, ?_, hk⟩
    show RM x (cel s') D w'
    rw [← e2]
    exact h2
/-- room is made -/
theorem cel_rec (hok : A.Ok s) {gs : List ByteArray} {s1 : Rs} (h : RecR (cel s) gs s1) : gs = (A.reclaim s).1 ∧ s1 = cel (A.reclaim s).2 := by
  rcases h with ⟨h1, h2, h3⟩ | ⟨h1, k, r, l, h2, h3, h4, h5⟩
  · rw [cel_len] at h1
    rw [A.rec_room h1]
    exact ⟨h2, h3⟩
  · rw [cel_len] at h1
    have h1' : s.c ≤ (A.keys s).length := h1
    have hlo := hok.lo
    obtain ⟨s', e1, e2⟩ := cel_goes hok (by omega) h2 h3
    rw [A.rec_full h1', e1]
    exact ⟨h4, by rw [h5]; exact e2⟩
/-- a cold key of S, or a ghost, becomes hot -/
theorem cel_warm (h : A.Ok s) {k : ByteArray} (hk : k ∈ s.t1) (hn : A.isHot s.b1 s.t2 k = false) : (∃ t : Stt, warmR (cel s) k = cel t ∧ A.Base t ∧ t.c = s.c ∧ t.t2.length ≤ s.c ∧ A.prune t = A.prune (A.cool (A.heat s k))) := by
  have hb := A.heat_base h.toBase k
  have hbot := A.bot_heat h.bot hk hn
  have hcnt : C.cnt 104 (C.top (cel s).s k 104) = (A.hots (A.heat s k)).length := by
    rw [← cel_hots, cel_heat]
    rfl
  have hg2 : (A.heat s k).t2.length ≤ s.c := Nat.le_trans (A.length_cut_le s.t2 k) h.gho
  unfold warmR
  rw [hcnt, cel_most, ← cel_heat]
  have hmost : A.most (A.heat s k) = A.most s := rfl
  by_cases hl : A.most s < (A.hots (A.heat s k)).length
  · rw [if_pos hl]
    have hc : A.cool (A.heat s k) = A.demote (A.heat s k) := by unfold A.cool; rw [if_pos (by rw [hmost]; exact hl)]
    cases ht : (A.heat s k).t1 with
    | nil => unfold A.hots at hl; rw [ht] at hl; simp at hl
    | cons y r =>
      have hy := hbot y r ht
      obtain ⟨e, h1, -, -⟩ := A.demote_is hb ht hy
      obtain ⟨p1, p2⟩ := A.prune_lt h1
      refine ⟨A.prune (A.demote (A.heat s k)), cel_cools hb ht hy, p1.base, by rw [p1.c, e]; rfl, Nat.le_trans p1.gl (by rw [e]; exact hg2), ?_⟩
      rw [hc]
      exact A.prune_stop p2
  · rw [if_neg hl]
    refine ⟨A.heat s k, rfl, hb, rfl, hg2, ?_⟩
    rw [A.cool_room (by rw [hmost]; omega)]
theorem cel_hit (h : A.Ok s) {k : ByteArray} (hk : k ∈ A.keys s) : hitR (cel s) k = cel (A.use s k) := by
  have hg : k ∉ s.t2 := fun e => h.ghost e hk
  unfold hitR
  by_cases h1 : C.isOf (cel s).s k = 104
  · rw [if_pos h1]
    have hh := cel_is_hot.1 h1
    obtain ⟨ht, hq, _⟩ := A.mem_hots.1 hh
    have hb := A.heat_base h.toBase k
    have hlen : (A.hots (A.heat s k)).length = (A.hots s).length := by
      rw [A.hots_heat]
      exact A.length_of_cnt (fun j => A.cnt_moved (A.Ok.once_hots h.toBase) hh j)
    have hu : A.use s k = A.prune (A.heat s k) := by
      unfold A.use
      rw [if_pos ht, A.cool_room (by rw [hlen]; exact h.hot)]
    rw [hu, cel_prune hb.ot, cel_heat]
    show (⟨C.pr (C.top (cel s).s k 104), s.b1, s.c⟩ : Rs) = ⟨C.pr (C.top (cel s).s k 104), A.cut s.b1 k, s.c⟩
    rw [A.cut_same hq]
  · rw [if_neg h1]
    have hq : k ∈ s.b1 := by
      rcases A.mem_keys.1 hk with h2 | h2
      · exact h2
      · exact absurd (cel_is_hot.2 h2) h1
    by_cases ht : k ∈ s.t1
    · have hs : A.sig s.b1 s.t2 k = 99 := A.sig_cold hg hq
      have h2 : C.isOf (cel s).s k = 99 := by
        show C.isOf (cels s.t1 s.b1 s.t2) k = 99
        rw [cels_find_in ht, hs]
      rw [if_pos h2]
      obtain ⟨t, e1, e2, e3, e4, e5⟩ := cel_warm h ht (A.isHot_not.2 (.inl hq))
      have hu : A.use s k = A.prune t := by unfold A.use; rw [if_pos ht, e5]
      rw [e1, hu, cel_prune e2.ot]
    · have h2 : C.isOf (cel s).s k = 0 := cels_find_out ht
      rw [if_neg (by rw [h2]; decide)]
      have hu : A.use s k = A.prune (A.layCold s k) := by unfold A.use; rw [if_neg ht]
      rw [hu, cel_prune (A.cold_base h.toBase k).ot, cel_layCold]
      rfl
theorem cel_miss (h : A.Ok s) {k : ByteArray} (hk : k ∉ A.keys s) {l : List C.It} (hf : C.Forgot s.c (missR (cel s) k).s l) : ({ missR (cel s) k with s := C.pr (C.pr l) } : Rs) = cel (A.admit s k) := by
  have hq : k ∉ s.b1 := fun e => hk (A.mem_keys.2 (.inl e))
  have fin : ∀ t : Stt, missR (cel s) k = cel t → A.Base t → t.t2.length ≤ s.c → A.prune t = A.admit s k → ({ missR (cel s) k with s := C.pr (C.pr l) } : Rs) = cel (A.admit s k) := by
    intro t e1 e2 e3 e4
    rw [e1] at hf ⊢
    have hl := forgot_same hf (by rw [cels_ghosts e2]; exact e3)
    rw [hl, pr_twice, ← e4, cel_prune e2.ot]
  by_cases h1 : (A.hots s).length < A.most s
  · have hm : missR (cel s) k = cel (A.heat s k) := by
      unfold missR
      rw [if_pos (by rw [cel_hots, cel_most]; exact h1), cel_heat]
      show (⟨C.top (cel s).s k 104, s.b1, s.c⟩ : Rs) = ⟨C.top (cel s).s k 104, A.cut s.b1 k, s.c⟩
      rw [A.cut_same hq]
    refine fin _ hm (A.heat_base h.toBase k) (Nat.le_trans (A.length_cut_le s.t2 k) h.gho) ?_
    have hh : k ∉ A.hots s := fun e => hk (A.mem_keys.2 (.inr e))
    unfold A.admit
    rw [if_pos (.inl h1), A.cool_room (by rw [A.hots_heat, A.come_len hh]; show (A.hots s).length + 1 ≤ A.most s; omega)]
  · by_cases h2 : k ∈ s.t2
    · have hm : missR (cel s) k = warmR (cel s) k := by
        unfold missR
        rw [if_neg (by rw [cel_hots, cel_most]; exact h1), if_pos ((cel_is_ghost h.toBase).2 h2)]
      obtain ⟨t, e1, e2, e3, e4, e5⟩ := cel_warm h (h.sub k h2) (A.isHot_not.2 (.inr h2))
      refine fin t (hm.trans e1) e2 e4 ?_
      rw [e5]
      unfold A.admit
      rw [if_pos (.inr h2)]
    · have hm : missR (cel s) k = cel (A.layCold s k) := by
        unfold missR
        rw [if_neg (by rw [cel_hots, cel_most]; exact h1), if_neg (fun e => h2 ((cel_is_ghost h.toBase).1 e)), cel_layCold, A.cut_same hq]
        rfl
      refine fin _ hm (A.cold_base h.toBase k) (Nat.le_trans (A.length_cut_le s.t2 k) h.gho) ?_
      unfold A.admit
      rw [if_neg (by rintro (e | e); exact h1 e; exact h2 e)]
/-- what Access answers: whether it was a hit, and a row that is none of the machine's -/
def Tells (x : Nat) (r : Bool × List ByteArray × Stt) (D : Nat → Prop) (w : World) (e : Ending) (w' : World) : Prop :=
  ∃ ad cap, e = .returned (.tuple #[.bool r.1, .slice ad r.2.1.length cap]) ∧ Beside (RE x r.2.2) ad cap r.2.1 D w' ∧ Keeps D w w'
theorem racc_any (H : RE x s D w) (hok : A.Ok s) (hD : ∀ k, w.heap.size ≤ k → D k) (key : ByteArray) :
    Calls Try.prog 36 #[.pointer (some ⟨x, 0, none⟩), .string key] w (Tells x (A.access s key) D w) := by
  have hsl := slOf hok
  unfold A.access
  by_cases h1 : key ∈ A.keys s
  · rw [if_pos h1]
    have hf : Calls Try.prog 36 #[.pointer (some ⟨x, 0, none⟩), .string key] w fun e w' => e = .returned (.tuple #[.bool true, .slice none 0 0]) ∧ RM x (hitR (cel s) key) D w' ∧ Keeps D w w' := by
      by_cases c1 : C.isOf (cel s).s key = 104
      · exact racc_hit_hot H hsl hD key c1
      · by_cases c2 : C.isOf (cel s).s key = 99
        · exact racc_hit_cold H hsl hD key c2 (cel_has.2 h1)
        · exact racc_hit_out H hsl hD key c1 c2 (cel_has.2 h1)
    refine hf.mono ?_
    rintro e w' ⟨rfl, h2, hk⟩
    rw [cel_hit hok h1] at h2
    exact ⟨none, 0, rfl, RM.bare h2, hk⟩
  · rw [if_neg h1]
    have hv := cel_hasnt h1
    obtain ⟨r1, r2, r3, r4, -⟩ := A.rec_ok hok
    have hn : key ∉ A.keys (A.reclaim s).2 := fun e => h1 (r4 key e)
    have hrec : ∀ gs s1, RecR (cel s) gs s1 → Sl s1 ∧ C.isOf s1.s key ≠ 104 ∧ s1 = cel (A.reclaim s).2 := fun gs s1 h => by
      obtain ⟨_, e⟩ := cel_rec hok h
      subst e
      exact ⟨slOf r1, fun e => hn (A.mem_keys.2 (.inr (cel_is_hot.1 e))), rfl⟩
    have hf : Calls Try.prog 36 #[.pointer (some ⟨x, 0, none⟩), .string key] w (MissR x (cel s) key D w) := by
      have hB : ∀ P : Rs → Prop, P (cel (A.reclaim s).2) → ∀ gs s1, RecR (cel s) gs s1 → Sl s1 ∧ C.isOf s1.s key ≠ 104 ∧ P s1 := fun P hP gs s1 h => by
        obtain ⟨a, b, c⟩ := hrec gs s1 h
        exact ⟨a, b, by rw [c]; exact hP⟩
      by_cases c1 : C.cnt 104 (cel (A.reclaim s).2).s < mostR (cel (A.reclaim s).2)
      · rcases Nat.lt_or_ge (lenR (cel s)) (cel s).c with hl | hl
        · exact racc_miss_room_hot H hsl hD key hv hl (hB _ c1)
        · exact racc_miss_full_hot H hsl hD key hv hl (hB _ c1)
      · by_cases c2 : C.isOf (cel (A.reclaim s).2).s key = 103
        · rcases Nat.lt_or_ge (lenR (cel s)) (cel s).c with hl | hl
          · exact racc_miss_room_ghost H hsl hD key hv hl (hB (fun s1 => ¬ C.cnt 104 s1.s < mostR s1 ∧ C.isOf s1.s key = 103) ⟨c1, c2⟩)
          · exact racc_miss_full_ghost H hsl hD key hv hl (hB (fun s1 => ¬ C.cnt 104 s1.s < mostR s1 ∧ C.isOf s1.s key = 103) ⟨c1, c2⟩)
        · rcases Nat.lt_or_ge (lenR (cel s)) (cel s).c with hl | hl
          · exact racc_miss_room_new H hsl hD key hv hl (hB (fun s1 => ¬ C.cnt 104 s1.s < mostR s1 ∧ C.isOf s1.s key ≠ 103) ⟨c1, c2⟩)
          · exact racc_miss_full_new H hsl hD key hv hl (hB (fun s1 => ¬ C.cnt 104 s1.s < mostR s1 ∧ C.isOf s1.s key ≠ 103) ⟨c1, c2⟩)
    refine hf.mono ?_
    rintro e w' ⟨gs, s1, l, hr, hfo, ad, cap, rfl, h2, hk⟩
    obtain ⟨e1, e2⟩ := cel_rec hok hr
    subst e1 e2
    rw [cel_miss r1 hn hfo] at h2
    exact ⟨ad, cap, rfl, h2, hk⟩
theorem rload_any (H : RE x s D w) (hok : A.Ok s) (hD : ∀ k, w.heap.size ≤ k → D k) (key : ByteArray) :
    Calls Try.prog 37 #[.pointer (some ⟨x, 0, none⟩), .string key] w fun e w' => e = .returned (.bool (A.load s key).1) ∧ RE x (A.load s key).2 D w' ∧ Keeps D w w' := by
  by_cases h : key ∈ A.keys s ∨ s.c ≤ (A.keys s).length
  · rw [A.load_no h]
    refine (rload_no H (slOf hok).sm key (by rw [cel_len]; rcases h with h | h; exact .inl (cel_has.2 h); exact .inr h)).mono ?_
    rintro e w' ⟨rfl, q, rfl⟩
    exact ⟨rfl, H.below (below_drewN (Below.refl _ w) q), .of_below (below_drewN (Below.refl _ w) q)⟩
  · have h1 : key ∉ A.keys s := fun e => h (.inl e)
    have hl : (A.keys s).length < s.c := by rcases Nat.lt_or_ge (A.keys s).length s.c with h2 | h2; exact h2; exact absurd (.inr h2) h
    have hq : key ∉ s.b1 := fun e => h1 (A.mem_keys.2 (.inl e))
    have e0 : A.load s key = (true, A.prune (A.put s key)) := by unfold A.load; rw [if_neg h]
    rw [e0]
    refine (rload_yes H (slOf hok) hD key (cel_hasnt h1) (by rw [cel_len]; exact hl)).mono ?_
    rintro e w' ⟨rfl, h2, hk⟩
    refine ⟨rfl, ?_, hk⟩
    have e1 : loadR (cel s) key = cel (A.prune (A.put s key)) := by
      unfold loadR A.put
      rw [cel_hots, cel_most]
      by_cases hm : (A.hots s).length < A.most s
      · rw [if_pos hm, if_pos hm, cel_prune (A.heat_base hok.toBase key).ot, cel_heat]
        show (⟨C.pr (C.top (cel s).s key 104), s.b1, s.c⟩ : Rs) = ⟨C.pr (C.top (cel s).s key 104), A.cut s.b1 key, s.c⟩
        rw [A.cut_same hq]
      · rw [if_neg hm, if_neg hm, cel_prune (A.cold_base hok.toBase key).ot, cel_layCold, A.cut_same hq]
        rfl
    show RM x (cel (A.prune (A.put s key))) D w'
    rw [← e1]
    exact h2
theorem rremove_any (H : RE x s D w) (hok : A.Ok s) (hD : ∀ k, w.heap.size ≤ k → D k) (key : ByteArray) :
    Calls Try.prog 38 #[.pointer (some ⟨x, 0, none⟩), .string key] w fun e w' => e = .returned (.bool (A.remove s key).1) ∧ RE x (A.remove s key).2 D w' ∧ Keeps D w w' := by
  refine (mremove_any H (slOf hok) hD key).mono ?_
  rintro e w' ⟨rfl, h2, hk⟩
  by_cases h : key ∈ A.keys s
  · have e0 : A.remove s key = (true, A.prune (A.gone s key)) := by unfold A.remove; rw [if_pos h]
    have hg : key ∉ s.t2 := fun e => hok.ghost e h
    rw [cel_has.2 h] at h2 ⊢
    rw [e0]
    refine ⟨rfl, ?_, hk⟩
    have e1 : removeR (cel s) key = cel (A.prune (A.gone s key)) := by
      rw [cel_prune (A.gone_base hok.toBase hg).1.ot]
      show (⟨C.pr (C.out (cels s.t1 s.b1 s.t2) key), A.cut s.b1 key, s.c⟩ : Rs) = ⟨C.pr (cels (A.cut s.t1 key) (A.cut s.b1 key) s.t2), A.cut s.b1 key, s.c⟩
      rw [cels_out, cels_cut (q' := A.cut s.b1 key) (g' := s.t2) (fun x h => A.sig_congr (by rw [A.mem_cut]; simp [h]) Iff.rfl)]
    show RM x (cel (A.prune (A.gone s key))) D w'
    rw [← e1]
    simpa using h2
  · rw [cel_hasnt h] at h2 ⊢
    rw [A.rem_no h]
    exact ⟨rfl, by show RM x (cel s) D w'; simpa using h2, hk⟩
end
end Go.Proofs.Ytcbaalodhgkgmaa
