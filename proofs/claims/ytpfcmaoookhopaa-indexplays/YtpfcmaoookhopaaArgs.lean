/- What came in: rows of texts, of acts: their cells; two rows of texts. -/
import Derived.Test.YtpfcmaoookhopaaKeys
import Derived.Deep.Strs
import Derived.ProofKit
import Derived.OpenShut
import Derived.SizedLaws
import Derived.WideShapes
namespace Go.Proofs.Ytpfcmaoookhopaa
open Go.RowKit Go.ChangeShapes Go.WideShapes

theorem cell_owned {w : World} {B : Nat} {e : TypeId} {ad : Option Addr} {m cap : Nat} {zs : List ByteArray} (h : w.ownsRow B e 1 (.slice ad m cap) m (zs.map Value.string)) (hm : 0 < m) :
    ∃ g, ad = some ⟨g, 0, none⟩ ∧ B ≤ g ∧ ∀ i, i < m → w.cell? ⟨g, 0 + i, none⟩ = some (.string (zs.getD i ⟨#[]⟩)) := by
  obtain ⟨g, cur, rfl, hb, hg, hc⟩ := ownsRow_block h hm
  refine ⟨g, rfl, hb, fun i hi => ?_⟩
  have hl : zs.length = m := by have := h.1; simpa using this
  rw [Nat.zero_add]
  exact hc i _ (by rw [List.getElem?_map, List.getElem?_eq_getElem (by omega)]; simp [List.getD, List.getElem?_eq_getElem (show i < zs.length by omega)])
theorem take_more {z1 z2 : List ByteArray} {k : Nat} (h1 : k < z1.length) (h2 : k < z2.length) (h : z1.take k = z2.take k) (e : z1.getD k ⟨#[]⟩ = z2.getD k ⟨#[]⟩) : z1.take (k + 1) = z2.take (k + 1) := by
  rw [List.take_add_one, List.take_add_one, h, List.getElem?_eq_getElem h1, List.getElem?_eq_getElem h2]
  simp [List.getD, List.getElem?_eq_getElem h1, List.getElem?_eq_getElem h2] at e
  rw [e]
/-- texts that lie behind a slice -/
def TextsAt (w : World) (ad : Option Addr) (zs : List ByteArray) : Prop := zs = [] ∨ ∃ g off, ad = some ⟨g, off, none⟩ ∧ ∀ i, i < zs.length → w.cell? ⟨g, off + i, none⟩ = some (.string (zs.getD i ⟨#[]⟩))
theorem TextsAt.own {w : World} {B : Nat} {e : TypeId} {ad : Option Addr} {m cap : Nat} {zs : List ByteArray} (h : w.ownsRow B e 1 (.slice ad m cap) m (zs.map Value.string)) : TextsAt w ad zs := by
  have hl : zs.length = m := by have := h.1; simpa using this
  rcases Nat.eq_zero_or_pos m with h0 | h0
  · exact .inl (List.eq_nil_of_length_eq_zero (by omega))
  · obtain ⟨g, e1, _, h2⟩ := cell_owned h h0
    exact .inr ⟨g, 0, e1, by rw [hl]; exact h2⟩
set_option maxHeartbeats 1000000 in
theorem texts_any {w : World} {ad1 ad2 : Option Addr} {m1 m2 cap1 cap2 : Nat} {z1 z2 : List ByteArray} (h1 : TextsAt w ad1 z1) (h2 : TextsAt w ad2 z2) (e1 : z1.length = m1) (e2 : z2.length = m2) (h5 : m1 ≤ 1000000) (h6 : m2 ≤ 1000000) :
    Calls Try.prog 14 #[.slice ad1 m1 cap1, .slice ad2 m2 cap2] w fun e w' => e = .returned (.bool (decide (z1 = z2))) ∧ Below w.heap.size w w' := by
  subst e1 e2
  by_cases hl : z1.length = z2.length
  · have hl2 : (z2.length : Int) = z1.length := by omega
    have c1 : ∀ k, k < z1.length → ∃ g off, ad1 = some ⟨g, off, none⟩ ∧ w.cell? ⟨g, off + k, none⟩ = some (.string (z1.getD k ⟨#[]⟩)) := by
      intro k hk
      rcases h1 with rfl | ⟨g, off, e, h⟩
      · simp at hk
      · exact ⟨g, off, e, h k hk⟩
    have c2 : ∀ k, k < z1.length → ∃ g off, ad2 = some ⟨g, off, none⟩ ∧ w.cell? ⟨g, off + k, none⟩ = some (.string (z2.getD k ⟨#[]⟩)) := by
      intro k hk
      rcases h2 with rfl | ⟨g, off, e, h⟩
      · simp at hl; simp [hl] at hk
      · exact ⟨g, off, e, h k (by omega)⟩
    have HL : Hid _ := hl
    have HC1 : Hid _ := c1
    have HC2 : Hid _ := c2
    rw [← hl]
    clear h1 h2 c1 c2 hl hl2
    go_enter Try.func14, Try.ntmps14
    go_wp2
    go_loopw [5] (fun i wr => ∃ k : Nat, k ≤ z1.length ∧ i = .int .i64 k ∧ z1.take k = z2.take k ∧ Below w.heap.size w wr) (fun i _ => z1.length - (intOf i).toNat)
    case atStart => exact ⟨0, Nat.zero_le _, rfl, rfl, Below.refl _ _⟩
    case round =>
      obtain ⟨k, hk, rfl, heq, hb⟩ := hrel
      have HE : Hid _ := heq
      clear heq
      rcases Nat.lt_or_ge k z1.length with hlt | hge
      · obtain ⟨g1, o1, ea1, d1⟩ := HC1.out k hlt
        obtain ⟨g2, o2, ea2, d2⟩ := HC2.out k hlt
        subst ea1 ea2
        replace d1 := cell_later hb d1
        replace d2 := cell_later hb d2
        obtain ⟨x1, ex1⟩ : ∃ x, x = z1.getD k ⟨#[]⟩ := ⟨_, rfl⟩
        obtain ⟨x2, ex2⟩ : ∃ x, x = z2.getD k ⟨#[]⟩ := ⟨_, rfl⟩
        rw [← ex1] at d1
        rw [← ex2] at d2
        have HX1 : Hid _ := ex1
        have HX2 : Hid _ := ex2
        clear ex1 ex2
        go_wp2
        go_quiet (fail)
        go_wp2
        · have hne : ¬ x1 = x2 := by
            intro e
            subst e
            simp_all
          go_ret
          have hz : decide (z1 = z2) = false := by
            simp only [decide_eq_false_iff_not]
            intro e
            apply hne
            rw [HX1.out, HX2.out, e]
          rw [hz]
          exact ⟨rfl, below_drewN hb _⟩
        · have heq : x1 = x2 := by
            have h : (!x1.toList == x2.toList) = false := by assumption
            rw [bytes_beq] at h
            simpa using h
          go_roundw
          case rel => exact ⟨k + 1, hlt, by go_num, take_more hlt (by have := HL.out; omega) HE.out (by rw [← HX1.out, ← HX2.out]; exact heq), below_drewN hb _⟩
          case measure => simp [intOf]; omega
      · have hk' : k = z1.length := by omega
        subst hk'
        have hz : decide (z1 = z2) = true := by
          have e := HE.out
          rw [List.take_length, HL.out, List.take_length] at e
          simp [e]
        have HZ : Hid _ := hz
        clear hz
        go_wp2
        go_ret
        exact ⟨by rw [HZ.out]; rfl, hb⟩
  · have hne : decide (z1 = z2) = false := by simp; intro e; exact hl (by rw [e])
    rw [hne]
    clear h1 h2 hne
    have hl' : ¬ ((z1.length : Int) = z2.length) := by omega
    go_enter Try.func14, Try.ntmps14
    go_wp2
    go_ret
    exact ⟨rfl, Below.refl _ _⟩

theorem plain_addr {w : World} {x : Addr} {v : Value} (h : w.cell? (x.add 0) = some v) : x = ⟨x.block, x.off, none⟩ := by
  obtain ⟨b, off, spot⟩ := x
  have hs : spot = none := by simpa [Addr.add] using World.cell?_spot h
  subst hs
  rfl
/-- cells behind a slice, one each -/
def RowIn {β : Type} (V : β → Value) (w : World) (ad : Option Addr) (zs : List β) : Prop :=
  zs = [] ∨ ∃ g off, ad = some ⟨g, off, none⟩ ∧ ∀ i z, zs[i]? = some z → w.cell? ⟨g, off + i, none⟩ = some (V z)
theorem row_in {β : Type} [Inhabited β] {V : β → Value} {w : World} {x : Addr} {n : Nat} {f : Nat → β} (h : ∀ i, i < n → w.cell? (x.add i) = some (V (f i))) : RowIn V w (some x) ((List.range n).map f) := by
  rcases Nat.eq_zero_or_pos n with h0 | h0
  · subst h0; exact .inl rfl
  · have hx := plain_addr (h 0 h0)
    rw [hx] at h ⊢
    refine .inr ⟨_, _, rfl, fun i z hz => ?_⟩
    rw [List.getElem?_map] at hz
    by_cases hi : i < n
    · rw [List.getElem?_range hi] at hz
      simp at hz
      have := h i hi
      rw [add_plain] at this
      rw [this, hz]
    · simp [hi] at hz
theorem RowIn.later {β : Type} {V : β → Value} {w w' : World} {ad : Option Addr} {zs : List β} (h : RowIn V w ad zs) (hb : Below w.heap.size w w') : RowIn V w' ad zs := by
  rcases h with h | ⟨g, off, e, h⟩
  · exact .inl h
  · exact .inr ⟨g, off, e, fun i z hz => cell_later hb (h i z hz)⟩
theorem RowIn.at {β : Type} {V : β → Value} {w : World} {ad : Option Addr} {zs : List β} (h : RowIn V w ad zs) {i : Nat} {z : β} (hz : zs[i]? = some z) : ∃ g off, ad = some ⟨g, off, none⟩ ∧ w.cell? ⟨g, off + i, none⟩ = some (V z) := by
  rcases h with h | ⟨g, off, e, h⟩
  · subst h; simp at hz
  · exact ⟨g, off, e, h i z hz⟩
theorem RowIn.texts {w : World} {ad : Option Addr} {zs : List ByteArray} (h : RowIn Value.string w ad zs) : TextsAt w ad zs := by
  rcases h with h | ⟨g, off, e, h⟩
  · exact .inl h
  · refine .inr ⟨g, off, e, fun i hi => h i _ ?_⟩
    simp [List.getD, List.getElem?_eq_getElem hi]
section
variable {H : Type} {enc : TypeId × Value → H} {W : World} {a : Option Addr} {len cap : Nat} {d : DataW H} {ps : List MemPlace}
theorem mem_weightsAll {P : Program} {e : TypeId} {x : DataW H} {y : Nat} : ∀ {l : List (DataW H)}, x ∈ l → y ∈ DataW.weights P e x → y ∈ DataW.weightsAll P e l
  | z :: l, hx, hy => by
    rw [DataW.weightsAll, List.mem_append]
    rcases List.mem_cons.1 hx with rfl | hx
    · exact .inl hy
    · exact .inr (mem_weightsAll hx hy)
theorem open_texts (h : DataW.Trod enc Try.prog W 0 (fun _ => true) true 36 (.slice a len cap) d ps) : ∃ zs : List ByteArray, zs.length = len ∧ len ≤ maxLen ∧ RowIn Value.string W a zs ∧ ∀ z ∈ zs, z.size ∈ DataW.weights Try.prog 36 d := by
  obtain ⟨fuel, hf⟩ := h
  rcases Go.Deep.open_strs Try.underlying36 Try.underlying9 (by kernel_rfl) hf with ⟨hcs, _⟩ | ⟨x, l, c, m, Sx, hcs, _, hl, hm, hmm, hd, hcell⟩
  · simp [Value.cells] at hcs
    obtain ⟨rfl, rfl, rfl⟩ := hcs
    exact ⟨[], rfl, Nat.zero_le _, .inl rfl, by simp⟩
  · simp [Value.cells] at hcs
    obtain ⟨rfl, rfl, rfl⟩ := hcs
    have hlm : len ≤ m := by rw [hmm]; simp; omega
    refine ⟨(List.range len).map Sx, by simp, by omega, row_in (fun i hi => (hcell i (by omega)).1), ?_⟩
    intro z hz
    simp at hz
    obtain ⟨i, hi, rfl⟩ := hz
    simp only [Prod.mk.injEq] at hd
    rw [hd.1, DataW.weights, Try.underlying36]
    refine List.mem_cons_of_mem _ (List.mem_append_left _ ?_)
    refine mem_weightsAll (x := .lit (.string (Sx i).data.toList)) (List.mem_map.2 ⟨i, by simpa using hi, rfl⟩) ?_
    simp [DataW.weights]
theorem reach_first {t : TypeId} {ts : List TypeId} {ds : List (DataW H)} {n : Nat} (hsz : (DataW.weightsEach Try.prog (t :: ts) (d :: ds)).all (· ≤ reachBytes) = true) (h : n ∈ DataW.weights Try.prog t d) : n ≤ 140737488351232 := by
  have := List.all_eq_true.1 hsz n (by rw [DataW.weightsEach]; exact List.mem_append_left _ h)
  exact of_decide_eq_true this
end
section
variable {H : Type} {enc : TypeId × Value → H} {W : World} {a : Option Addr} {len cap : Nat} {d : DataW H} {ps : List MemPlace}
/-- an act: its kind, its number, its text -/
structure Deed where
  kind : Int
  n : Int
  s : ByteArray
  deriving Inhabited
def DeedsIn (w : World) (ad : Option Addr) (zs : List Deed) : Prop :=
  zs = [] ∨ ∃ g off, ad = some ⟨g, off, none⟩ ∧ ∀ i z, zs[i]? = some z → w.cell? ⟨g, off + i * 3, none⟩ = some (.int .i64 z.kind) ∧ w.cell? ⟨g, off + i * 3 + 1, none⟩ = some (.int .i64 z.n) ∧ w.cell? ⟨g, off + i * 3 + 2, none⟩ = some (.string z.s)
theorem DeedsIn.later {w w' : World} {ad : Option Addr} {zs : List Deed} (h : DeedsIn w ad zs) (hb : Below w.heap.size w w') : DeedsIn w' ad zs := by
  rcases h with h | ⟨g, off, e, h⟩
  · exact .inl h
  · exact .inr ⟨g, off, e, fun i z hz => ⟨cell_later hb (h i z hz).1, cell_later hb (h i z hz).2.1, cell_later hb (h i z hz).2.2⟩⟩
theorem DeedsIn.at {w : World} {ad : Option Addr} {zs : List Deed} (h : DeedsIn w ad zs) {i : Nat} {z : Deed} (hz : zs[i]? = some z) : ∃ g off, ad = some ⟨g, off, none⟩ ∧ w.cell? ⟨g, off + i * 3, none⟩ = some (.int .i64 z.kind) ∧ w.cell? ⟨g, off + i * 3 + 1, none⟩ = some (.int .i64 z.n) ∧ w.cell? ⟨g, off + i * 3 + 2, none⟩ = some (.string z.s) := by
  rcases h with h | ⟨g, off, e, h⟩
  · subst h; simp at hz
  · exact ⟨g, off, e, h i z hz⟩
theorem open_deeds (h : DataW.Trod enc Try.prog W 0 (fun _ => true) true 23 (.slice a len cap) d ps) : ∃ zs : List Deed, zs.length = len ∧ len ≤ maxLen ∧ DeedsIn W a zs ∧ ∀ z ∈ zs, (Lit.int .i64 z.kind).wf = true ∧ (Lit.int .i64 z.n).wf = true ∧ z.s.size ≤ maxLen := by
  obtain ⟨fuel, hf⟩ := h
  have c33 : Try.prog.cellsOf 33 = 3 := by kernel_rfl
  have c3 : Try.prog.cellsOf 3 = 1 := by kernel_rfl
  have c9 : Try.prog.cellsOf 9 = 1 := by kernel_rfl
  rcases Go.Deep.open_slice Try.underlying23 hf with ⟨hcs, _⟩ | ⟨x, l, c, m, n, D, Pl, hcs, _, hl, hm, hmm, _, hcell⟩
  · simp [Value.cells] at hcs
    obtain ⟨rfl, rfl, rfl⟩ := hcs
    exact ⟨[], rfl, Nat.zero_le _, .inl rfl, by simp⟩
  · simp [Value.cells] at hcs
    obtain ⟨rfl, rfl, rfl⟩ := hcs
    have hlm : len ≤ m := by rw [hmm]; simp; omega
    rw [c33] at hcell
    have each : ∀ i, i < m → ∃ z : Deed, (W.cell? ((x.add (i * 3)).add 0) = some (.int .i64 z.kind) ∧ W.cell? ((x.add (i * 3)).add 1) = some (.int .i64 z.n) ∧ W.cell? ((x.add (i * 3)).add 2) = some (.string z.s)) ∧ (Lit.int .i64 z.kind).wf = true ∧ (Lit.int .i64 z.n).wf = true ∧ z.s.size ≤ maxLen := fun i hi => by
      obtain ⟨cs, h1, h2⟩ := hcell i hi
      obtain ⟨_, hlen, hc⟩ := World.cells?_some h1
      obtain ⟨y0, y1, y2, n', _, _, t0, t1, t2⟩ := Go.Deep.trod_struct3 Try.underlying33 h2
      obtain ⟨k, e0, _, wk⟩ := DataW.trod_int Try.underlying3 t0
      obtain ⟨h, e1, _, wh⟩ := DataW.trod_int Try.underlying3 t1
      obtain ⟨s, e2, _, ws⟩ := DataW.trod_string Try.underlying9 t2
      match cs, hlen with
      | [v0, v1, v2], _ =>
        simp [c3] at e0 e1
        simp [c9] at e2
        subst e0 e1 e2
        exact ⟨⟨k, h, s⟩, ⟨hc 0 (by omega), hc 1 (by omega), hc 2 (by omega)⟩, wk, wh, ws⟩
    obtain ⟨f, hf⟩ := Go.Deep.choose_lt each
    refine ⟨(List.range len).map f, by simp, by omega, ?_, ?_⟩
    · rcases Nat.eq_zero_or_pos len with h0 | h0
      · subst h0; exact .inl rfl
      · have hx : x = ⟨x.block, x.off, none⟩ := by
          have := (hf 0 (by omega)).1.1
          exact plain_addr (w := W) (v := .int .i64 (f 0).kind) (by simpa [Addr.add] using this)
        rw [hx] at hf ⊢
        refine .inr ⟨_, _, rfl, fun i z hz => ?_⟩
        rw [List.getElem?_map] at hz
        by_cases hi : i < len
        · rw [List.getElem?_range hi] at hz
          simp at hz
          have := (hf i (by omega)).1
          simp only [add_plain, Nat.add_zero] at this
          rw [← hz]
          exact this
        · simp [hi] at hz
    · intro z hz
      simp at hz
      obtain ⟨i, hi, rfl⟩ := hz
      exact (hf i (by omega)).2
end
/-- two rows of texts that are one -/
theorem texts_same {w : World} {ad1 ad2 : Option Addr} {m1 m2 cap1 cap2 : Nat} {z1 z2 : List ByteArray} (h1 : TextsAt w ad1 z1) (h2 : TextsAt w ad2 z2) (e1 : z1.length = m1) (e2 : z2.length = m2) (h5 : m1 ≤ 1000000) (h6 : m2 ≤ 1000000) (e : z1 = z2) :
    Calls Try.prog 14 #[.slice ad1 m1 cap1, .slice ad2 m2 cap2] w fun e w' => e = .returned (.bool true) ∧ Below w.heap.size w w' := by
  have := texts_any (cap1 := cap1) (cap2 := cap2) h1 h2 e1 e2 h5 h6
  rw [show decide (z1 = z2) = true by simpa using e] at this
  exact this
theorem from_own {w : World} {B : Nat} {e : TypeId} {ad : Option Addr} {n cap : Nat} {zs : List ByteArray} (h : w.ownsRow B e 1 (.slice ad n cap) n (zs.map Value.string)) : FromRow w 1 ad n cap (zs.map Value.string) := by
  rcases h.2 with ⟨hv, _⟩ | ⟨g, c, cur, hv, _⟩
  · cases hv
    have := h.1
    simp at this
    subst this
    exact .inl ⟨rfl, rfl, rfl, rfl⟩
  · cases hv
    refine .inr ⟨_, rfl, by simpa using h.1, fun j u hu => h.cells rfl j u hu, ?_⟩
    intro u hu
    simp at hu
    obtain ⟨z, _, rfl⟩ := hu
    rfl

section
variable {H : Type} {t : TypeId} {ts : List TypeId} {d : DataW H} {ds : List (DataW H)}
theorem reach_tail (hsz : (DataW.weightsEach Try.prog (t :: ts) (d :: ds)).all (· ≤ reachBytes) = true) : (DataW.weightsEach Try.prog ts ds).all (· ≤ reachBytes) = true := by
  rw [DataW.weightsEach, List.all_append, Bool.and_eq_true] at hsz
  exact hsz.2
end
end Go.Proofs.Ytpfcmaoookhopaa
