/- Remove, in both. -/
import Derived.Test.YtgpjdcoikbmciaaAct
namespace Go.Proofs.Ytgpjdcoikbmciaa
open Go.RowKit

section
variable {O : Nat → Prop} {w : World} {p x : Nat} {row free : List Nat} {va : Nat → ByteArray} {n : Nat}
set_option maxRecDepth 20000 in
set_option maxHeartbeats 4000000 in
theorem act3_in {l r : List Nat} (k : Nat) (HP : Alike O w p x (l ++ k :: r) free va n) (hk : k ∉ l) (hk2 : k ∉ l ++ r) (hn : n ≤ 1000) (v : ByteArray) :
    Calls Try.prog 11 #[.pointer (some ⟨p, 0, none⟩), .pointer (some ⟨x, 0, none⟩), .agg #[.int .i64 3, .int .i64 (k : Int), .string v]] w fun e w' => e = .returned (.bool true) ∧ After O w w' p x n := by
  obtain ⟨DL, hL⟩ := Pair.left HP
  have hlen := hL.len
  clear hL
  have HB := Pair.boxed HP (.cells #[.int .i64 3, .int .i64 (k : Int), .string v] 33)
  have hb : (w.alloc (.cells #[.int .i64 3, .int .i64 (k : Int), .string v] 33)).heap[w.heap.size]? = some (.cells #[.int .i64 3, .int .i64 (k : Int), .string v] 33 (0, 0)) := heap_alloc_new w _
  clear HP
  go_enter Try.func11, Try.ntmps11
  go_wp2_with (first
    | (go_at_call 34; refine (Pair.onL HB (fun D H hD => remove_in k H (by omega))).mono ?_; rintro e w1 ⟨rfl, HB1, hk1⟩; have hb1 := hk1.boxCells (.inr rfl) hb; obtain ⟨d0, d1, d2⟩ := cells_of_three hb1; clear HB)
    | (go_at_call 42; refine (Pair.onX HB1 (fun D H hD => rremove_in k H hD hk (by omega) (by omega))).mono ?_; rintro e w2 ⟨rfl, HB2, hk2'⟩; clear HB1))
  go_ret
  exact ⟨rfl, ⟨_, _, _, _, Pair.fewer (Pair.congr HB2 (fun y hy => (upd_far _ _ (by rintro rfl; exact hk2 hy)).symm)) (fun _ e => .inl e), Nat.le_succ _, .inl rfl⟩, (hk1.trans hk2').unboxed⟩
set_option maxRecDepth 20000 in
set_option maxHeartbeats 4000000 in
theorem act3_out (HP : Alike O w p x row free va n) (hn : n ≤ 1000) (hd : Int) (ho : ∀ k ∈ row, hd ≠ (k : Nat)) (v : ByteArray) :
    Calls Try.prog 11 #[.pointer (some ⟨p, 0, none⟩), .pointer (some ⟨x, 0, none⟩), .agg #[.int .i64 3, .int .i64 hd, .string v]] w fun e w' => e = .returned (.bool true) ∧ After O w w' p x n := by
  obtain ⟨DL, hL⟩ := Pair.left HP
  have hlen := hL.len
  clear hL
  have HB := Pair.boxed HP (.cells #[.int .i64 3, .int .i64 hd, .string v] 33)
  obtain ⟨DL', hL'⟩ := Pair.left HB
  obtain ⟨DX', hX'⟩ := Pair.right HB
  have HO : Hid _ := ho
  clear HP ho
  go_enter Try.func11, Try.ntmps11
  go_wp2_with (first
    | (go_at_call 34; refine (remove_out hL' hd HO.out (by omega)).mono ?_; rintro e w1 ⟨rfl, rfl⟩)
    | (go_at_call 42; refine (rremove_out hX' hd HO.out (by omega)).mono ?_; rintro e w1 ⟨rfl, rfl⟩))
  go_ret
  exact ⟨rfl, ⟨_, _, _, _, Pair.fewer HB (fun _ e => .inl e), Nat.le_succ _, .inl rfl⟩, (Keeps.refl _ _).unboxed⟩
end
end Go.Proofs.Ytgpjdcoikbmciaa
