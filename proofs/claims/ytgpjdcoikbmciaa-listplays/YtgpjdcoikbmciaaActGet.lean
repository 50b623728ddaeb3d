/- Get, Next, Prev, in both. -/
import Derived.Test.YtgpjdcoikbmciaaAct
import Derived.Deep.QuietTactic
import Derived.BigQuiet
namespace Go.Proofs.Ytgpjdcoikbmciaa
open Go.RowKit

section
variable {O : Nat → Prop} {w : World} {p x : Nat} {row free : List Nat} {va : Nat → ByteArray} {n : Nat}
set_option maxRecDepth 20000 in
set_option maxHeartbeats 4000000 in
theorem act7_in {l r : List Nat} (k : Nat) (HP : Alike O w p x (l ++ k :: r) free va n) (hk : k ∉ l) (hn : n ≤ 1000) (kd : Int) (n1 : ¬ kd = 1) (n2 : ¬ kd = 2) (n3 : ¬ kd = 3) (n4 : ¬ kd = 4) (n5 : ¬ kd = 5) (n6 : ¬ kd = 6) (v : ByteArray) :
    Calls Try.prog 11 #[.pointer (some ⟨p, 0, none⟩), .pointer (some ⟨x, 0, none⟩), .agg #[.int .i64 kd, .int .i64 (k : Int), .string v]] w fun e w' => e = .returned (.bool true) ∧ After O w w' p x n := by
  obtain ⟨DL, hL⟩ := Pair.left HP
  have hlen := hL.len
  clear hL
  have HB := Pair.boxed HP (.cells #[.int .i64 kd, .int .i64 (k : Int), .string v] 33)
  have hb : (w.alloc (.cells #[.int .i64 kd, .int .i64 (k : Int), .string v] 33)).heap[w.heap.size]? = some (.cells #[.int .i64 kd, .int .i64 (k : Int), .string v] 33 (0, 0)) := heap_alloc_new w _
  obtain ⟨DL', hL'⟩ := Pair.left HB
  obtain ⟨DX', hX'⟩ := Pair.right HB
  clear HP
  go_enter Try.func11, Try.ntmps11
  go_wp2_with (first
    | (go_at_call 33; refine (get_in hL' k (by simp) (by omega)).mono ?_; rintro e w1 ⟨rfl, rfl⟩)
    | (go_at_call 46; refine (rget_in k hX' hk (by omega)).mono ?_; rintro e w1 ⟨rfl, rfl⟩))
  have HKK : Hid (∀ w', Keeps (fun k => ¬ (O k ∨ k = w.heap.size)) (w.alloc (.cells #[.int .i64 kd, .int .i64 (k : Int), .string v] 33)) w' → Keeps (fun k => ¬ O k) w w') := fun w' h => h.unboxed
  generalize w.alloc (.cells #[.int .i64 kd, .int .i64 (k : Int), .string v] 33) = W at HB hb HKK hL' hX' ⊢
  generalize w.heap.size = b at HB hb HKK ⊢
  obtain ⟨c0, c1, c2⟩ := cells_of_three hb
  have hLq : ∀ m, LA Value.string 60 58 DL' (W.drewN m) p (l ++ k :: r) free va n := fun m => hL'.kept (D := fun _ => False) ((Keeps.refl _ W).drewN m) (fun _ _ e => e)
  have hXq : ∀ m, RA DX' (W.drewN m) x (l ++ k :: r) free va n := fun m => hX'.kept (D' := fun _ => False) ((Keeps.refl _ W).drewN m) (fun _ _ e => e)
  go_quiet (first
    | (go_at_call 31; exact Calls.quiet_of_same (next_in k (hLq _) (by omega)))
    | (go_at_call 47; exact Calls.quiet_of_same (rnext_in k (hXq _) hk (by omega)))
    | (go_at_call 39; exact Calls.quiet_of_same (prev_in k (hLq _) (by omega)))
    | (go_at_call 48; exact Calls.quiet_of_same (rprev_in k (hXq _) hk (by omega))))
  go_wp2_with fail
  go_ret
  exact ⟨rfl, ⟨_, _, _, _, Pair.fewer (Pair.below HB (below_drewN (Below.refl _ W) _)) (fun _ e => .inl e), Nat.le_succ _, .inl rfl⟩, HKK.out _ ((Keeps.refl _ W).drewN _)⟩
set_option maxRecDepth 20000 in
set_option maxHeartbeats 4000000 in
theorem act7_out (HP : Alike O w p x row free va n) (hn : n ≤ 1000) (hd : Int) (ho : ∀ k ∈ row, hd ≠ (k : Nat)) (kd : Int) (n1 : ¬ kd = 1) (n2 : ¬ kd = 2) (n3 : ¬ kd = 3) (n4 : ¬ kd = 4) (n5 : ¬ kd = 5) (n6 : ¬ kd = 6) (v : ByteArray) :
    Calls Try.prog 11 #[.pointer (some ⟨p, 0, none⟩), .pointer (some ⟨x, 0, none⟩), .agg #[.int .i64 kd, .int .i64 hd, .string v]] w fun e w' => e = .returned (.bool true) ∧ After O w w' p x n := by
  obtain ⟨DL, hL⟩ := Pair.left HP
  have hlen := hL.len
  clear hL
  have HB := Pair.boxed HP (.cells #[.int .i64 kd, .int .i64 hd, .string v] 33)
  have hb : (w.alloc (.cells #[.int .i64 kd, .int .i64 hd, .string v] 33)).heap[w.heap.size]? = some (.cells #[.int .i64 kd, .int .i64 hd, .string v] 33 (0, 0)) := heap_alloc_new w _
  obtain ⟨DL', hL'⟩ := Pair.left HB
  obtain ⟨DX', hX'⟩ := Pair.right HB
  have HO : Hid _ := ho
  clear HP ho
  go_enter Try.func11, Try.ntmps11
  go_wp2_with (first
    | (go_at_call 33; refine (get_out hL' hd HO.out (by omega)).mono ?_; rintro e w1 ⟨rfl, rfl⟩)
    | (go_at_call 46; refine (rget_out hX' hd HO.out (by omega)).mono ?_; rintro e w1 ⟨rfl, rfl⟩))
  have HKK : Hid (∀ w', Keeps (fun k => ¬ (O k ∨ k = w.heap.size)) (w.alloc (.cells #[.int .i64 kd, .int .i64 hd, .string v] 33)) w' → Keeps (fun k => ¬ O k) w w') := fun w' h => h.unboxed
  generalize w.alloc (.cells #[.int .i64 kd, .int .i64 hd, .string v] 33) = W at HB hb HKK hL' hX' ⊢
  generalize w.heap.size = b at HB hb HKK ⊢
  obtain ⟨c0, c1, c2⟩ := cells_of_three hb
  have hLq : ∀ m, LA Value.string 60 58 DL' (W.drewN m) p row free va n := fun m => hL'.kept (D := fun _ => False) ((Keeps.refl _ W).drewN m) (fun _ _ e => e)
  have hXq : ∀ m, RA DX' (W.drewN m) x row free va n := fun m => hX'.kept (D' := fun _ => False) ((Keeps.refl _ W).drewN m) (fun _ _ e => e)
  go_quiet (first
    | (go_at_call 31; exact Calls.quiet_of_same (next_out (hLq _) hd HO.out (by omega)))
    | (go_at_call 47; exact Calls.quiet_of_same (rnext_out (hXq _) hd HO.out (by omega)))
    | (go_at_call 39; exact Calls.quiet_of_same (prev_out (hLq _) hd HO.out (by omega)))
    | (go_at_call 48; exact Calls.quiet_of_same (rprev_out (hXq _) hd HO.out (by omega))))
  go_wp2_with fail
  go_ret
  exact ⟨rfl, ⟨_, _, _, _, Pair.fewer (Pair.below HB (below_drewN (Below.refl _ W) _)) (fun _ e => .inl e), Nat.le_succ _, .inl rfl⟩, HKK.out _ ((Keeps.refl _ W).drewN _)⟩
end
end Go.Proofs.Ytgpjdcoikbmciaa
