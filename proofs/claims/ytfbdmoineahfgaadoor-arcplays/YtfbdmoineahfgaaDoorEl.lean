/- An engine as the machine of chapter 10: adapt, by a ghost of b2. -/
import Derived.Test.YtfbdmoineahfgaaDoorEf
import Derived.Test.YtfbdmoineahfgaaDoorIv
namespace Go.Proofs.YtfbdmoineahfgaaDoor
open Go.RowKit

section
variable {D : Nat → Prop} {w w' : World} {e b : Nat} {s : Stt}
theorem gl_count {c p : Nat} {Q : Nat → List ByteArray} (H : EN D w e c p Q b) (hb : b ≤ 900000) {W : World} (hW : Below w.heap.size w W) {g : Nat} (i : Nat) (hi : i < 4) (hg : IntsAt W g [i]) :
    Calls Tryd.prog 48 #[.pointer (some ⟨e, 0, none⟩), .slice (some ⟨g, 0, none⟩) 1 1] W fun ee w' => ee = .returned (.int .i64 ((Q i).length : Nat)) ∧ w' = W := by
  have := count_any (H.below hW) hb hg (by simpa using hi) (by simp)
  rw [tot1] at this
  exact this
theorem gl_op {P : Program} {ops : Array Oper} {Q : Exit → Act → World → Prop} {i : Nat} {o : Oper} {K : Act → World → Prop} {a : Act} {W : World} (ho : ops[i]? = some o) (hg : o.guard = none) (h : o.wp P a W K Q) : wpOp P ops Q i K a W := by
  unfold wpOp
  rw [ho]
  simp only [Region.wanted, hg, if_true]
  exact .inl h
/-- what each slot holds, once it is filled -/
def gl_val (e p nu nd K : Nat) : Nat → Value
  | 3 => .pointer (some ⟨e, 1, none⟩)
  | 16 => .pointer (some ⟨e, 1, none⟩)
  | 4 => .int .i64 (p : Nat)
  | 7 => .int .i64 (nu : Nat)
  | 10 => .int .i64 (nd : Nat)
  | 11 => .int .i64 (K : Nat)
  | 12 => .int .i64 (max (K : Int) 1)
  | 13 => .int .i64 ((p : Int) - max (K : Int) 1)
  | 14 => .int .i64 (max ((p : Int) - max (K : Int) 1) 0)
  | _ => .pointer (some ⟨e, 0, none⟩)
def gl_F (e p nu nd K : Nat) (j : Nat) (v : Value) (W : World) : Prop :=
  (j = 6 ∧ ∃ g, v = .slice (some ⟨g, 0, none⟩) 1 1 ∧ IntsAt W g [2]) ∨ (j = 9 ∧ ∃ g, v = .slice (some ⟨g, 0, none⟩) 1 1 ∧ IntsAt W g [3]) ∨ (j ≠ 6 ∧ j ≠ 9 ∧ v = gl_val e p nu nd K j)
theorem gl_mono {e p nu nd K j : Nat} {v : Value} {W W' : World} (h : gl_F e p nu nd K j v W) (hb : Below W.heap.size W W') : gl_F e p nu nd K j v W' := by
  rcases h with ⟨h1, g, h2, h3⟩ | ⟨h1, g, h2, h3⟩ | h
  · exact .inl ⟨h1, g, h2, (hb.block g (lt_of_block h3)).trans h3⟩
  · exact .inr (.inl ⟨h1, g, h2, (hb.block g (lt_of_block h3)).trans h3⟩)
  · exact .inr (.inr h)
theorem gl_is {e p nu nd K j : Nat} {v : Value} {W : World} (h : gl_F e p nu nd K j v W) (h6 : j ≠ 6) (h9 : j ≠ 9) : v = gl_val e p nu nd K j := by
  rcases h with ⟨h1, _⟩ | ⟨h1, _⟩ | h
  · exact absurd h1 h6
  · exact absurd h1 h9
  · exact h.2.2
theorem gl_s6 {e p nu nd K : Nat} {v : Value} {W : World} (h : gl_F e p nu nd K 6 v W) : ∃ g, v = .slice (some ⟨g, 0, none⟩) 1 1 ∧ IntsAt W g [2] := by
  rcases h with h | ⟨h1, _⟩ | h
  · exact h.2
  · omega
  · exact absurd rfl h.1
theorem gl_s9 {e p nu nd K : Nat} {v : Value} {W : World} (h : gl_F e p nu nd K 9 v W) : ∃ g, v = .slice (some ⟨g, 0, none⟩) 1 1 ∧ IntsAt W g [3] := by
  rcases h with ⟨h1, _⟩ | h | h
  · omega
  · exact h.2
  · exact absurd rfl h.2.1
theorem gl_mk {e p nu nd K j : Nat} {W : World} (h6 : j ≠ 6) (h9 : j ≠ 9) : gl_F e p nu nd K j (gl_val e p nu nd K j) W := .inr (.inr ⟨h6, h9, rfl⟩)
/-- what holds all along -/
def gl_C (w : World) (e : Nat) (a : Act) (W : World) : Prop := Below w.heap.size w W ∧ a.defers = [] ∧ a.tmps.size = 44 ∧ a.tmps.getD 0 undef = .pointer (some ⟨e, 0, none⟩)
theorem gl_put {w W W' : World} {e i : Nat} {a : Act} {v : Value} (h : gl_C w e a W) (hb : Below W.heap.size W W') : gl_C w e (a.put (some (27 + i)) v) W' :=
  ⟨((Keeps.of_below (D := fun _ => False) h.1).trans (.of_below hb)).below (Nat.le_refl _) (fun _ e => e.elim), h.2.1, by simpa [Act.put] using h.2.2.1, by rw [put_far (by omega)]; exact h.2.2.2⟩
set_option maxRecDepth 100000 in
set_option maxHeartbeats 4000000 in
theorem adapt2 (H : AE e b s D w) (hb : b ≤ 700000) (hbb : 0 < s.b2.length) (hp : s.p ≤ 1024) :
    Calls Tryd.prog 54 #[.pointer (some ⟨e, 0, none⟩), .int .i64 3] w fun ee w' => ee = .returned (.tuple #[]) ∧ AE e b (A.less s) D w' ∧ Keeps D w w' := by
  have HE : Hid (EN D w e s.c s.p (qs s) b) := H
  have ld : s.b2.length ≤ 700000 := Nat.le_trans (EN.lens H (i := 3) (by omega)) hb
  have lu : s.b1.length ≤ 700000 := Nat.le_trans (EN.lens H (i := 2) (by omega)) hb
  obtain ⟨K, hK⟩ : ∃ K : Nat, s.b1.length / s.b2.length = K := ⟨_, rfl⟩
  have hq : ((s.b1.length : Nat) : Int) / ((s.b2.length : Nat) : Int) = (K : Int) := by rw [← Int.natCast_ediv, hK]
  have hKl : K ≤ 700000 := by rw [← hK]; exact Nat.le_trans (Nat.div_le_self _ _) lu
  have hend : Hid (∀ W : World, Below w.heap.size w W → ∀ v : Int, v = (s.p - max 1 K : Nat) → AE e b (A.less s) D (W.setCell ⟨e, 1, none⟩ (.int .i64 v)) ∧ Keeps D w (W.setCell ⟨e, 1, none⟩ (.int .i64 v))) := by
    intro W hW v hv
    have h9 := (HE.out.below hW).setP (s.p - max 1 K)
    subst hv
    refine ⟨?_, (Keeps.of_below hW).trans ((Keeps.refl D W).setCell (p := ⟨e, 1, none⟩) (EN.de HE.out) _)⟩
    have e1 : A.less s = { s with p := s.p - max 1 K } := by simp only [A.less, hK]
    rw [e1]
    exact h9
  have HCn : Hid (∀ (W : World) (g i : Nat), Below w.heap.size w W → i < 4 → IntsAt W g [i] → Calls Tryd.prog 48 #[.pointer (some ⟨e, 0, none⟩), .slice (some ⟨g, 0, none⟩) 1 1] W fun ee w' => ee = .returned (.int .i64 ((qs s i).length : Nat)) ∧ w' = W) := fun W g i hW hi hg => gl_count HE.out (by omega) hW i hi hg
  have HCell : Hid (∀ W : World, Below w.heap.size w W → W.cell? ⟨e, 0, none⟩ = some (.int .i64 (s.c : Nat)) ∧ W.cell? ⟨e, 1, none⟩ = some (.int .i64 (s.p : Nat)) ∧ W.frozen? ⟨e, 1, none⟩ = false) := fun W hW => by
    obtain ⟨c0, c1, f1, _⟩ := EN.cells (HE.out.below hW)
    exact ⟨c0, c1, f1⟩
  have hnd : ¬ s.b2.length = 0 := by omega
  have hwK : IntKind.i64.wrap (K : Int) = (K : Int) := by simp [IntKind.wrap_i64]; omega
  have hw1 : IntKind.i64.wrap ((s.p : Int) - max (K : Int) 1) = (s.p : Int) - max (K : Int) 1 := by simp [IntKind.wrap_i64]; omega
  clear hK H HE
  go_enter Tryd.func54, Tryd.ntmps54
  go_wp2_with fail
  refine region_inv (by kernel_rfl) 17 rfl (fun j => 27 + j) (gl_F e s.p s.b1.length s.b2.length K) (gl_C w e) ?hlex ?hwait ?hinj ?hlt ?start ?step ?last
  case hinj => intro i j _ _ h; omega
  case hlt => intro a W hC i hi; have := hC.2.2.1; omega
  case start => exact ⟨(Below.refl _ w).drew, rfl, rfl, rfl⟩
  case hwait => exact wait_of (by kernel_rfl)
  case hlex => exact lex_of (by kernel_rfl)
  case step =>
    intro i hi a W hC hdep
    have h0 : a.tmps[0]?.getD undef = .pointer (some ⟨e, 0, none⟩) := by simpa using hC.2.2.2
    have hB := hC.1
    obtain ⟨-, c1, -⟩ := HCell.out W hB
    have hcase : i = 0 ∨ i = 1 ∨ i = 2 ∨ i = 3 ∨ i = 4 ∨ i = 5 ∨ i = 6 ∨ i = 7 ∨ i = 8 ∨ i = 9 ∨ i = 10 ∨ i = 11 ∨ i = 12 ∨ i = 13 ∨ i = 14 ∨ i = 15 ∨ i = 16 := by omega
    rcases hcase with e1 | e1 | e1 | e1 | e1 | e1 | e1 | e1 | e1 | e1 | e1 | e1 | e1 | e1 | e1 | e1 | e1
    · subst e1
      refine ⟨gl_val e s.p s.b1.length s.b2.length K 0, W, fun Kc hKc => gl_op rfl rfl ?_, gl_put hC (Below.refl _ _), gl_mk (by decide) (by decide), fun j u h => h⟩
      simp [Oper.wp, execOp, Act.eval, go_sem, h0]
      exact hKc
    · subst e1
      refine ⟨gl_val e s.p s.b1.length s.b2.length K 1, W, fun Kc hKc => gl_op rfl rfl ?_, gl_put hC (Below.refl _ _), gl_mk (by decide) (by decide), fun j u h => h⟩
      simp [Oper.wp, execOp, Act.eval, go_sem, h0]
      exact hKc
    · subst e1
      have d1 : a.tmps[28]?.getD undef = .pointer (some ⟨e, 0, none⟩) := by have h := gl_is (hdep 1 (by kernel_rfl)) (by decide) (by decide); simpa [gl_val] using h
      refine ⟨gl_val e s.p s.b1.length s.b2.length K 2, W, fun Kc hKc => gl_op rfl rfl ?_, gl_put hC (Below.refl _ _), gl_mk (by decide) (by decide), fun j u h => h⟩
      simp [Oper.wp, execOp, Act.eval, go_sem, d1]
      exact hKc
    · subst e1
      have d2 : a.tmps[29]?.getD undef = .pointer (some ⟨e, 0, none⟩) := by have h := gl_is (hdep 2 (by kernel_rfl)) (by decide) (by decide); simpa [gl_val] using h
      refine ⟨gl_val e s.p s.b1.length s.b2.length K 3, W, fun Kc hKc => gl_op rfl rfl ?_, gl_put hC (Below.refl _ _), gl_mk (by decide) (by decide), fun j u h => h⟩
      simp [Oper.wp, execOp, Act.eval, go_sem, d2]
      exact hKc
    · subst e1
      have d3 : a.tmps[30]?.getD undef = .pointer (some ⟨e, 1, none⟩) := by have h := gl_is (hdep 3 (by kernel_rfl)) (by decide) (by decide); simpa [gl_val] using h
      refine ⟨gl_val e s.p s.b1.length s.b2.length K 4, W, fun Kc hKc => gl_op rfl rfl ?_, gl_put hC (Below.refl _ _), gl_mk (by decide) (by decide), fun j u h => h⟩
      simp [Oper.wp, execOp, Act.eval, go_sem, d3, c1]
      exact hKc
    · subst e1
      refine ⟨gl_val e s.p s.b1.length s.b2.length K 5, W, fun Kc hKc => gl_op rfl rfl ?_, gl_put hC (Below.refl _ _), gl_mk (by decide) (by decide), fun j u h => h⟩
      simp [Oper.wp, execOp, Act.eval, go_sem, h0]
      exact hKc
    · subst e1
      have hb1 : Below W.heap.size W (W.alloc (.cells #[.int .i64 2] 3)) := (Below.refl _ W).alloc (Nat.le_refl _) _
      refine ⟨.slice (some ⟨W.heap.size, 0, none⟩) 1 1, W.alloc (.cells #[.int .i64 2] 3), fun Kc hKc => gl_op rfl rfl ?_, gl_put hC hb1, .inl ⟨rfl, W.heap.size, rfl, heap_alloc_new W _⟩, fun j u h => gl_mono h hb1⟩
      simp [Oper.wp, execOp, Act.eval, go_sem]
      exact hKc
    · subst e1
      have d5 : a.tmps[32]?.getD undef = .pointer (some ⟨e, 0, none⟩) := by have h := gl_is (hdep 5 (by kernel_rfl)) (by decide) (by decide); simpa [gl_val] using h
      obtain ⟨g, hg1, hg2⟩ := gl_s6 (hdep 6 (by kernel_rfl))
      have ds : a.tmps[33]?.getD undef = .slice (some ⟨g, 0, none⟩) 1 1 := by simpa using hg1
      have hcl := HCn.out W g 2 hB (by omega) hg2
      refine ⟨gl_val e s.p s.b1.length s.b2.length K 7, W, fun Kc hKc => gl_op rfl rfl ?_, gl_put hC (Below.refl _ _), gl_mk (by decide) (by decide), fun j u h => h⟩
      simp [Oper.wp, execOp, Act.eval, go_sem, d5, ds]
      refine Calls.mono hcl ?_
      rintro ee w1 ⟨rfl, rfl⟩
      exact hKc
    · subst e1
      refine ⟨gl_val e s.p s.b1.length s.b2.length K 8, W, fun Kc hKc => gl_op rfl rfl ?_, gl_put hC (Below.refl _ _), gl_mk (by decide) (by decide), fun j u h => h⟩
      simp [Oper.wp, execOp, Act.eval, go_sem, h0]
      exact hKc
    · subst e1
      have hb1 : Below W.heap.size W (W.alloc (.cells #[.int .i64 3] 3)) := (Below.refl _ W).alloc (Nat.le_refl _) _
      refine ⟨.slice (some ⟨W.heap.size, 0, none⟩) 1 1, W.alloc (.cells #[.int .i64 3] 3), fun Kc hKc => gl_op rfl rfl ?_, gl_put hC hb1, .inr (.inl ⟨rfl, W.heap.size, rfl, heap_alloc_new W _⟩), fun j u h => gl_mono h hb1⟩
      simp [Oper.wp, execOp, Act.eval, go_sem]
      exact hKc
    · subst e1
      have d8 : a.tmps[35]?.getD undef = .pointer (some ⟨e, 0, none⟩) := by have h := gl_is (hdep 8 (by kernel_rfl)) (by decide) (by decide); simpa [gl_val] using h
      obtain ⟨g, hg1, hg2⟩ := gl_s9 (hdep 9 (by kernel_rfl))
      have ds : a.tmps[36]?.getD undef = .slice (some ⟨g, 0, none⟩) 1 1 := by simpa using hg1
      have hcl := HCn.out W g 3 hB (by omega) hg2
      refine ⟨gl_val e s.p s.b1.length s.b2.length K 10, W, fun Kc hKc => gl_op rfl rfl ?_, gl_put hC (Below.refl _ _), gl_mk (by decide) (by decide), fun j u h => h⟩
      simp [Oper.wp, execOp, Act.eval, go_sem, d8, ds]
      refine Calls.mono hcl ?_
      rintro ee w1 ⟨rfl, rfl⟩
      exact hKc
    · subst e1
      have d7 : a.tmps[34]?.getD undef = .int .i64 (s.b1.length : Nat) := by have h := gl_is (hdep 7 (by kernel_rfl)) (by decide) (by decide); simpa [gl_val] using h
      have d10 : a.tmps[37]?.getD undef = .int .i64 (s.b2.length : Nat) := by have h := gl_is (hdep 10 (by kernel_rfl)) (by decide) (by decide); simpa [gl_val] using h
      refine ⟨gl_val e s.p s.b1.length s.b2.length K 11, W, fun Kc hKc => gl_op rfl rfl ?_, gl_put hC (Below.refl _ _), gl_mk (by decide) (by decide), fun j u h => h⟩
      simp [Oper.wp, execOp, Act.eval, go_sem, d7, d10, hq, hnd, hwK]
      exact hKc
    · subst e1
      have d11 : a.tmps[38]?.getD undef = .int .i64 (K : Nat) := by have h := gl_is (hdep 11 (by kernel_rfl)) (by decide) (by decide); simpa [gl_val] using h
      refine ⟨gl_val e s.p s.b1.length s.b2.length K 12, W, fun Kc hKc => gl_op rfl rfl ?_, gl_put hC (Below.refl _ _), gl_mk (by decide) (by decide), fun j u h => h⟩
      simp [Oper.wp, execOp, Act.eval, go_sem, d11]
      exact hKc
    · subst e1
      have d4 : a.tmps[31]?.getD undef = .int .i64 (s.p : Nat) := by have h := gl_is (hdep 4 (by kernel_rfl)) (by decide) (by decide); simpa [gl_val] using h
      have d12 : a.tmps[39]?.getD undef = .int .i64 (max (K : Int) 1) := by have h := gl_is (hdep 12 (by kernel_rfl)) (by decide) (by decide); simpa [gl_val] using h
      refine ⟨gl_val e s.p s.b1.length s.b2.length K 13, W, fun Kc hKc => gl_op rfl rfl ?_, gl_put hC (Below.refl _ _), gl_mk (by decide) (by decide), fun j u h => h⟩
      simp [Oper.wp, execOp, Act.eval, go_sem, d4, d12, hw1]
      exact hKc
    · subst e1
      have d13 : a.tmps[40]?.getD undef = .int .i64 ((s.p : Int) - max (K : Int) 1) := by have h := gl_is (hdep 13 (by kernel_rfl)) (by decide) (by decide); simpa [gl_val] using h
      refine ⟨gl_val e s.p s.b1.length s.b2.length K 14, W, fun Kc hKc => gl_op rfl rfl ?_, gl_put hC (Below.refl _ _), gl_mk (by decide) (by decide), fun j u h => h⟩
      simp [Oper.wp, execOp, Act.eval, go_sem, d13]
      exact hKc
    · subst e1
      have d0 : a.tmps[27]?.getD undef = .pointer (some ⟨e, 0, none⟩) := by have h := gl_is (hdep 0 (by kernel_rfl)) (by decide) (by decide); simpa [gl_val] using h
      refine ⟨gl_val e s.p s.b1.length s.b2.length K 15, W, fun Kc hKc => gl_op rfl rfl ?_, gl_put hC (Below.refl _ _), gl_mk (by decide) (by decide), fun j u h => h⟩
      simp [Oper.wp, execOp, Act.eval, go_sem, d0]
      exact hKc
    · subst e1
      have d15 : a.tmps[42]?.getD undef = .pointer (some ⟨e, 0, none⟩) := by have h := gl_is (hdep 15 (by kernel_rfl)) (by decide) (by decide); simpa [gl_val] using h
      refine ⟨gl_val e s.p s.b1.length s.b2.length K 16, W, fun Kc hKc => gl_op rfl rfl ?_, gl_put hC (Below.refl _ _), gl_mk (by decide) (by decide), fun j u h => h⟩
      simp [Oper.wp, execOp, Act.eval, go_sem, d15]
      exact hKc
  case last =>
    intro a W hC hall
    have hB := hC.1
    obtain ⟨c0, c1, f1⟩ := HCell.out W hB
    have d16 : a.tmps[43]?.getD undef = .pointer (some ⟨e, 1, none⟩) := by have h := gl_is (hall 16 (by omega)) (by decide) (by decide); simpa [gl_val] using h
    have d14 : a.tmps[41]?.getD undef = .int .i64 (max ((s.p : Int) - max (K : Int) 1) 0) := by have h := gl_is (hall 14 (by omega)) (by decide) (by decide); simpa [gl_val] using h
    refine gl_op rfl rfl ?_
    simp [Oper.wp, execOp, Act.eval, go_sem, d16, d14, c1, f1]
    have hv : max ((s.p : Int) - max (K : Int) 1) 0 = ((s.p - max 1 K : Nat) : Int) := by omega
    exact bodyPost_end (results_none rfl _ _ _) hC.2.1 ⟨rfl, hend.out W hB _ hv⟩
end
end Go.Proofs.YtfbdmoineahfgaaDoor
