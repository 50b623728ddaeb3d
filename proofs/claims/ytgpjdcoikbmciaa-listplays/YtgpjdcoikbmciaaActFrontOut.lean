/- in both, where it is not there. -/
import Derived.Test.YtgpjdcoikbmciaaAct
namespace Go.Proofs.Ytgpjdcoikbmciaa
open Go.RowKit

section
variable {O : Nat → Prop} {w : World} {p x : Nat} {row free : List Nat} {va : Nat → ByteArray} {n : Nat}
set_option maxRecDepth 20000 in
set_option maxHeartbeats 4000000 in
theorem act5_out (HP : Alike O w p x row free va n) (hn : n ≤ 1000) (hd : Int) (ho : ∀ k ∈ row, hd ≠ (k : Nat)) (v : ByteArray) :
    Calls Try.prog 11 #[.pointer (some ⟨p, 0, none⟩), .pointer (some ⟨x, 0, none⟩), .agg #[.int .i64 5, .int .i64 hd, .string v]] w fun e w' => e = .returned (.bool true) ∧ After O w w' p x n := by
  obtain ⟨DL, hL⟩ := Pair.left HP
  have hlen := hL.len
  obtain ⟨hnd, hh, -⟩ := hL.facts
  clear hL
  have HB := Pair.boxed HP (.cells #[.int .i64 5, .int .i64 hd, .string v] 33)
  have hb : (w.alloc (.cells #[.int .i64 5, .int .i64 hd, .string v] 33)).heap[w.heap.size]? = some (.cells #[.int .i64 5, .int .i64 hd, .string v] 33 (0, 0)) := heap_alloc_new w _
  clear hh
  obtain ⟨DL', hL'⟩ := Pair.left HB
  obtain ⟨DX', hX'⟩ := Pair.right HB
  have HO : Hid _ := ho
  have hcl : Hid (∀ q, (w.alloc (.cells #[.int .i64 5, .int .i64 hd, .string v] 33)) = q → True) := fun _ _ => trivial
  go_enter Try.func11, Try.ntmps11
  go_wp2_with fail
  have hkk : ∀ w', Keeps (fun k => ¬ (O k ∨ k = w.heap.size)) (w.alloc (.cells #[.int .i64 5, .int .i64 hd, .string v] 33)) w' → Keeps (fun k => ¬ O k) w w' := fun w' h => h.unboxed
  have HKK : Hid _ := hkk
  clear hkk
  generalize w.alloc (.cells #[.int .i64 5, .int .i64 hd, .string v] 33) = W at HB hb HKK hL' hX' hcl ⊢
  generalize w.heap.size = b at HB hb HKK ⊢
  obtain ⟨c0, c1, c2⟩ := cells_of_three hb
  go_region_with (first
    | (go_at_call 37; refine (toFront_out (w := W.drew) hL' hd HO.out (by omega)).mono ?_; rintro e w1 ⟨rfl, rfl⟩)
    | (go_at_call 44; refine (rtoFront_out (w := W.drew) hX' hd HO.out (by omega)).mono ?_; rintro e w1 ⟨rfl, rfl⟩))
  all_goals
    go_wp2_with fail
    go_ret
    exact ⟨rfl, ⟨_, _, _, _, Pair.fewer (Pair.below HB (Below.refl _ W).drew) (fun _ e => .inl e), Nat.le_succ _, .inl rfl⟩, HKK.out W.drew (Keeps.refl _ W).drew⟩
end
end Go.Proofs.Ytgpjdcoikbmciaa
