/- What came in: rows of numbers: their cells; two rows of numbers; what is known. -/
import Derived.Test.YtpjeehdgdhbhdaaNum3
import Derived.Deep.Strs
import Derived.ProofKit
import Derived.OpenShut
import Derived.SizedLaws
namespace Go.Proofs.Ytpjeehdgdhbhdaa
open Go.RowKit Go.ChangeShapes Go.WideShapes

theorem plain_addr {w : World} {x : Addr} {v : Value} (h : w.cell? (x.add 0) = some v) : x = ⟨x.block, x.off, none⟩ := by
  obtain ⟨b, off, spot⟩ := x
  have hs : spot = none := by simpa [Addr.add] using World.cell?_spot h
  subst hs
  rfl
/-- cells behind a slice, one each -/
def RowIn {β : Type} (V : β → Value) (w : World) (ad : Option Addr) (zs : List β) : Prop :=
  zs = [] ∨ ∃ g off, ad = some ⟨g, off, none⟩ ∧ ∀ i z, zs[i]? = some z → w.cell? ⟨g, off + i, none⟩ = some (V z)
theorem row_in {β : Type} [Inhabited β] {V : β → Value} {w : World} {x : Addr} {n : Nat} {f : Nat → β} (h : ∀ i, i < n → w.cell? (x.add i) = some (V (f i))) : RowIn V w (some x) ((List.range n).map f) := by
  rcases Nat.eq_zero_or_pos n with h0 | h0
  · subst h0; exact .inl rfl
  · have hx := plain_addr (h 0 h0)
    rw [hx] at h ⊢
    refine .inr ⟨_, _, rfl, fun i z hz => ?_⟩
    rw [List.getElem?_map] at hz
    by_cases hi : i < n
    · rw [List.getElem?_range hi] at hz
      simp at hz
      have := h i hi
      rw [add_plain] at this
      rw [this, hz]
    · simp [hi] at hz
theorem RowIn.later {β : Type} {V : β → Value} {w w' : World} {ad : Option Addr} {zs : List β} (h : RowIn V w ad zs) (hb : Below w.heap.size w w') : RowIn V w' ad zs := by
  rcases h with h | ⟨g, off, e, h⟩
  · exact .inl h
  · exact .inr ⟨g, off, e, fun i z hz => cell_later hb (h i z hz)⟩
theorem RowIn.at {β : Type} {V : β → Value} {w : World} {ad : Option Addr} {zs : List β} (h : RowIn V w ad zs) {i : Nat} {z : β} (hz : zs[i]? = some z) : ∃ g off, ad = some ⟨g, off, none⟩ ∧ w.cell? ⟨g, off + i, none⟩ = some (V z) := by
  rcases h with h | ⟨g, off, e, h⟩
  · subst h; simp at hz
  · exact ⟨g, off, e, h i z hz⟩
section
variable {H : Type} {enc : TypeId × Value → H} {W : World} {a : Option Addr} {len cap : Nat} {d : DataW H} {ps : List MemPlace}
theorem open_nums (h : DataW.Trod enc Try.prog W 0 (fun _ => true) true 22 (.slice a len cap) d ps) : ∃ zs : List Int, zs.length = len ∧ len ≤ maxLen ∧ RowIn (Value.int .i64) W a zs ∧ ∀ z ∈ zs, (Lit.int .i64 z).wf = true := by
  obtain ⟨fuel, hf⟩ := h
  rcases Go.Deep.open_slice1 Try.underlying22 (by kernel_rfl) hf with ⟨hcs, _⟩ | ⟨x, l, c, m, n, V, D, Pl, hcs, _, hl, hm, hmm, _, hcell⟩
  · simp [Value.cells] at hcs
    obtain ⟨rfl, rfl, rfl⟩ := hcs
    exact ⟨[], rfl, Nat.zero_le _, .inl rfl, by simp⟩
  · simp [Value.cells] at hcs
    obtain ⟨rfl, rfl, rfl⟩ := hcs
    have hlm : len ≤ m := by rw [hmm]; simp; omega
    have each : ∀ i, i < m → ∃ b : Int, V i = .int .i64 b ∧ (Lit.int .i64 b).wf = true := fun i hi => by
      obtain ⟨b, h1, _, h3⟩ := DataW.trod_int Try.underlying3 (hcell i hi).2
      exact ⟨b, by simpa using h1, h3⟩
    obtain ⟨f, hf⟩ := Go.Deep.choose_lt each
    refine ⟨(List.range len).map f, by simp, by omega, row_in (fun i hi => by rw [(hcell i (by omega)).1, (hf i (by omega)).1]), ?_⟩
    intro z hz
    simp at hz
    obtain ⟨i, hi, rfl⟩ := hz
    exact (hf i (by omega)).2
end
theorem RowIn.block {β : Type} {V : β → Value} {w : World} {g : Nat} {t : TypeId} {zs : List β} (h : w.heap[g]? = some (.cells (zs.map V).toArray t (0, 0))) : RowIn V w (some ⟨g, 0, none⟩) zs := by
  refine .inr ⟨g, 0, rfl, fun i z hz => ?_⟩
  rw [cell_of_block h, Nat.zero_add]
  simp [hz]
theorem RowIn.own {β : Type} {V : β → Value} {w : World} {B : Nat} {e : TypeId} {ad : Option Addr} {m cap : Nat} {zs : List β} (h : w.ownsRow B e 1 (.slice ad m cap) m (zs.map V)) : RowIn V w ad zs := by
  have hl : zs.length = m := by have := h.1; simpa using this
  rcases Nat.eq_zero_or_pos m with h0 | h0
  · exact .inl (List.eq_nil_of_length_eq_zero (by omega))
  · obtain ⟨g, cur, rfl, hb, hg, hc⟩ := ownsRow_block h h0
    exact .inr ⟨g, 0, rfl, fun i z hz => by rw [Nat.zero_add]; exact hc i _ (by simp [hz])⟩
theorem take_more {z1 z2 : List Int} {k : Nat} {x : Int} (h : z1.take k = z2.take k) (h1 : z1[k]? = some x) (h2 : z2[k]? = some x) : z1.take (k + 1) = z2.take (k + 1) := by
  rw [List.take_add_one, List.take_add_one, h, h1, h2]
set_option maxHeartbeats 1000000 in
theorem numbers_any {w : World} {ad1 ad2 : Option Addr} {cap1 cap2 : Nat} {z1 z2 : List Int} (h1 : RowIn (Value.int .i64) w ad1 z1) (h2 : RowIn (Value.int .i64) w ad2 z2) (h5 : z1.length ≤ 1000000) :
    Calls Try.prog 14 #[.slice ad1 z1.length cap1, .slice ad2 z2.length cap2] w fun e w' => e = .returned (.bool (decide (z1 = z2))) ∧ ∃ q, w' = w.drewN q := by
  by_cases hl : z1.length = z2.length
  · have HL : Hid (z1.length = z2.length) := hl
    have HC1 : Hid (RowIn (Value.int .i64) w ad1 z1) := h1
    have HC2 : Hid (RowIn (Value.int .i64) w ad2 z2) := h2
    rw [← hl]
    clear h1 h2 hl
    go_enter Try.func14, Try.ntmps14
    go_wp2
    go_loopw [5] (fun i wr => ∃ k : Nat, k ≤ z1.length ∧ i = .int .i64 k ∧ z1.take k = z2.take k ∧ ∃ q, wr = w.drewN q) (fun i _ => z1.length - (intOf i).toNat)
    case atStart => exact ⟨0, Nat.zero_le _, rfl, rfl, 0, rfl⟩
    case round =>
      obtain ⟨k, hk, rfl, heq, q, rfl⟩ := hrel
      have HE : Hid (z1.take k = z2.take k) := heq
      clear heq
      rcases Nat.lt_or_ge k z1.length with hlt | hge
      · obtain ⟨x1, ex1⟩ : ∃ x, z1[k]? = some x := ⟨_, List.getElem?_eq_getElem hlt⟩
        obtain ⟨x2, ex2⟩ : ∃ x, z2[k]? = some x := ⟨_, List.getElem?_eq_getElem (by have := HL.out; omega)⟩
        obtain ⟨g1, o1, ea1, d1⟩ := HC1.out.at ex1
        obtain ⟨g2, o2, ea2, d2⟩ := HC2.out.at ex2
        subst ea1 ea2
        have HX1 : Hid (z1[k]? = some x1) := ex1
        have HX2 : Hid (z2[k]? = some x2) := ex2
        clear ex1 ex2
        by_cases hxx : x1 = x2
        · subst hxx
          go_wp2
          go_quiet (fail)
          go_wp2
          go_roundw
          case rel => exact ⟨k + 1, hlt, by go_num, take_more HE.out HX1.out HX2.out, _, rfl⟩
          case measure => simp [intOf]; omega
        · have hz : decide (z1 = z2) = false := by
            simp only [decide_eq_false_iff_not]
            intro e
            have e1 := HX1.out
            have e2 := HX2.out
            rw [e, e2] at e1
            exact hxx (Option.some.inj e1).symm
          have HZ : Hid (decide (z1 = z2) = false) := hz
          clear hz
          go_wp2
          go_quiet (fail)
          go_wp2
          go_ret
          exact ⟨by rw [HZ.out]; rfl, q + nq, World.drewN_drewN _ _ _⟩
      · have hk' : k = z1.length := by omega
        subst hk'
        have hz : decide (z1 = z2) = true := by
          have e := HE.out
          rw [List.take_length, HL.out, List.take_length] at e
          simp [e]
        have HZ : Hid (decide (z1 = z2) = true) := hz
        clear hz
        go_wp2
        go_ret
        exact ⟨by rw [HZ.out]; rfl, _, rfl⟩
  · have hne : decide (z1 = z2) = false := by simp; intro e; exact hl (by rw [e])
    rw [hne]
    clear h1 h2 hne
    have hl' : ¬ ((z1.length : Int) = z2.length) := by omega
    go_enter Try.func14, Try.ntmps14
    go_wp2
    go_ret
    exact ⟨rfl, 0, rfl⟩
/-- two rows of numbers that are one -/
theorem numbers_same {w : World} {ad1 ad2 : Option Addr} {m1 m2 cap1 cap2 : Nat} {zs : List Int} (h1 : RowIn (Value.int .i64) w ad1 zs) (h2 : RowIn (Value.int .i64) w ad2 zs) (e1 : m1 = zs.length) (e2 : m2 = zs.length) (h5 : zs.length ≤ 1000000) :
    Calls Try.prog 14 #[.slice ad1 m1 cap1, .slice ad2 m2 cap2] w fun e w' => e = .returned (.bool true) ∧ ∃ q, w' = w.drewN q := by
  subst e1 e2
  have := numbers_any (cap1 := cap1) (cap2 := cap2) h1 h2 h5
  rw [show decide (zs = zs) = true by simp] at this
  exact this
theorem two_nums (w : World) (x y : Int) : RowIn (Value.int .i64) (w.alloc (.cells #[.int .i64 x, .int .i64 y] 3)) (some ⟨w.heap.size, 0, none⟩) [x, y] :=
  RowIn.block (t := 3) (heap_alloc_new w _)
open Num in
set_option maxHeartbeats 1000000 in
theorem known_any (w : World) : Calls Try.prog 18 #[] w fun e w' => e = .returned (.bool true) ∧ Below w.heap.size w w' := by
  go_enter Try.func18, Try.ntmps18
  go_wp2_with (first
    | (go_at_call 6; refine (new_any w (w.heap.size ≤ ·) (Nat.le_refl _) 2).mono ?_; rintro e w1 ⟨p, rfl, H1, hb1, -⟩; have s1 := hb1.size; replace H1 : RG V 3 47 (w.heap.size ≤ ·) w1 p [] 2 := H1)
    | (go_at_call 10; refine (push_any H1 (fun k h => Nat.le_trans s1 h) 1).mono ?_; rintro e w2 ⟨rfl, H2, hb2⟩; replace H2 : RG V 3 47 (w.heap.size ≤ ·) w2 p [1] 2 := H2; have s2 := Nat.le_trans s1 hb2.size; clear H1)
    | (go_at_call 10; refine (push_any H2 (fun k h => Nat.le_trans s2 h) 2).mono ?_; rintro e w3 ⟨rfl, H3, hb3⟩; replace H3 : RG V 3 47 (w.heap.size ≤ ·) w3 p [1, 2] 2 := H3; have s3 := Nat.le_trans s2 hb3.size; clear H2)
    | (go_at_call 10; refine (push_any H3 (fun k h => Nat.le_trans s3 h) 3).mono ?_; rintro e w4 ⟨rfl, H4, hb4⟩; replace H4 : RG V 3 47 (w.heap.size ≤ ·) w4 p [1, 2] 2 := H4; have s4 := Nat.le_trans s3 hb4.size; clear H3)
    | (go_at_call 8; refine (pop_any H4).mono ?_; rintro e w5 ⟨rfl, H5, hb5⟩; replace H5 : RG V 3 47 (w.heap.size ≤ ·) w5 p [2] 2 := H5; have s5 := Nat.le_trans s4 hb5.size; clear H4)
    | (go_at_call 10; refine (push_any H5 (fun k h => Nat.le_trans s5 h) 4).mono ?_; rintro e w6 ⟨rfl, H6, hb6⟩; replace H6 : RG V 3 47 (w.heap.size ≤ ·) w6 p [2, 4] 2 := H6; have s6 := Nat.le_trans s5 hb6.size; clear H5)
    | (go_at_call 15; refine (all_any H6).mono ?_; rintro e w7 ⟨G, rfl, -, hG, hb7⟩; have HG : Hid (RowIn (Value.int .i64) w7 (some ⟨G, 0, none⟩) [2, 4]) := RowIn.block hG; clear hG H6)
    | (go_at_call 14; refine (numbers_same (RowIn.later HG.out ((Below.refl _ _).alloc (Nat.le_refl _) _)) (two_nums _ _ _) rfl rfl (by decide)).mono ?_; rintro e w8 ⟨rfl, q, rfl⟩))
  go_ret
  exact ⟨rfl, ((((((((hb1.trans hb2).trans hb3).trans hb4).trans hb5).trans hb6).trans (.of_below hb7)).alloc _).drewN q).below (Nat.le_refl _) (fun k h => h)⟩
end Go.Proofs.Ytpjeehdgdhbhdaa
