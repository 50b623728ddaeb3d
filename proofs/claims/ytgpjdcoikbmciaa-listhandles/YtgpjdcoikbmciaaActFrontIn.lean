/- in both, where it is there. -/
import Derived.Test.YtgpjdcoikbmciaaAct
namespace Go.Proofs.Ytgpjdcoikbmciaa
open Go.RowKit

section
variable {O : Nat → Prop} {w : World} {p x : Nat} {row free : List Nat} {va : Nat → ByteArray} {n : Nat}
set_option maxRecDepth 20000 in
set_option maxHeartbeats 4000000 in
theorem act5_in {l r : List Nat} (k : Nat) (HP : Alike O w p x (l ++ k :: r) free va n) (hk : k ∉ l) (hn : n ≤ 1000) (v : ByteArray) :
    Calls Try.prog 11 #[.pointer (some ⟨p, 0, none⟩), .pointer (some ⟨x, 0, none⟩), .agg #[.int .i64 5, .int .i64 (k : Int), .string v]] w fun e w' => e = .returned (.bool true) ∧ After O w w' p x n := by
  obtain ⟨DL, hL⟩ := Pair.left HP
  have hlen := hL.len
  obtain ⟨hnd, hh, -⟩ := hL.facts
  clear hL
  have HB := Pair.boxed HP (.cells #[.int .i64 5, .int .i64 (k : Int), .string v] 33)
  have hb : (w.alloc (.cells #[.int .i64 5, .int .i64 (k : Int), .string v] 33)).heap[w.heap.size]? = some (.cells #[.int .i64 5, .int .i64 (k : Int), .string v] 33 (0, 0)) := heap_alloc_new w _
  clear hh HP
  go_enter Try.func11, Try.ntmps11
  go_wp2_with fail
  have hkk : ∀ w', Keeps (fun k => ¬ (O k ∨ k = w.heap.size)) (w.alloc (.cells #[.int .i64 5, .int .i64 (k : Int), .string v] 33)) w' → Keeps (fun k => ¬ O k) w w' := fun w' h => h.unboxed
  have HKK : Hid _ := hkk
  clear hkk
  generalize w.alloc (.cells #[.int .i64 5, .int .i64 (k : Int), .string v] 33) = W at HB hb HKK ⊢
  generalize w.heap.size = b at HB hb HKK ⊢
  obtain ⟨c0, c1, c2⟩ := cells_of_three hb
  go_region_with (first
    | (go_at_call 37; refine (Pair.onL (w := W.drew) HB (fun D H hD => toFront_in k H (by omega))).mono ?_; rintro e w1 ⟨rfl, HB1, hk1⟩; have hb1 := hk1.boxCells (.inr rfl) hb; obtain ⟨d0, d1, d2⟩ := cells_of_three hb1; clear HB)
    | (go_at_call 44; refine (Pair.onX HB1 (fun D H hD => rtoFront_in k H hD hk (by omega))).mono ?_; rintro e w2 ⟨rfl, HB2, hk2'⟩; clear HB1))
  all_goals
    go_wp2_with fail
    go_ret
    exact ⟨rfl, ⟨_, _, _, _, Pair.fewer HB2 (fun _ e => .inl e), Nat.le_succ _, .inl rfl⟩, HKK.out w2 (((Keeps.refl _ W).drew.trans hk1).trans hk2')⟩
end
end Go.Proofs.Ytgpjdcoikbmciaa
