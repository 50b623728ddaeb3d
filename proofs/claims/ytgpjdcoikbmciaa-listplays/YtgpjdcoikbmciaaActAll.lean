/- An act, in both, whatever it is; and how both begin. -/
import Derived.Test.YtgpjdcoikbmciaaActPush
import Derived.Test.YtgpjdcoikbmciaaActRemove
import Derived.Test.YtgpjdcoikbmciaaActSetIn
import Derived.Test.YtgpjdcoikbmciaaActSetOut
import Derived.Test.YtgpjdcoikbmciaaActFrontIn
import Derived.Test.YtgpjdcoikbmciaaActFrontOut
import Derived.Test.YtgpjdcoikbmciaaActBackIn
import Derived.Test.YtgpjdcoikbmciaaActBackOut
import Derived.Test.YtgpjdcoikbmciaaActGet
import Derived.Test.YtgpjdcoikbmciaaHeavy
namespace Go.Proofs.Ytgpjdcoikbmciaa
open Go.RowKit

section
variable {O : Nat → Prop} {w : World} {p x : Nat} {row free : List Nat} {va : Nat → ByteArray} {n : Nat}
theorem act_any (HP : Alike O w p x row free va n) (hn : n ≤ 1000) (z : Deed) :
    Calls Try.prog 11 #[.pointer (some ⟨p, 0, none⟩), .pointer (some ⟨x, 0, none⟩), .agg #[.int .i64 z.kind, .int .i64 z.h, .string z.s]] w fun e w' => e = .returned (.bool true) ∧ After O w w' p x n := by
  obtain ⟨kd, hd, v⟩ := z
  obtain ⟨DL, hL⟩ := Pair.left HP
  have hnd := hL.facts.1
  clear hL
  show Calls Try.prog 11 #[.pointer (some ⟨p, 0, none⟩), .pointer (some ⟨x, 0, none⟩), .agg #[.int .i64 kd, .int .i64 hd, .string v]] w _
  by_cases n1 : kd = 1
  · subst n1; exact act1 HP hn hd v
  by_cases n2 : kd = 2
  · subst n2; exact act2 HP hn hd v
  rcases row_split row hd hnd with ⟨k, l, r, rfl, rfl, hk, hk2⟩ | ho
  · by_cases n3 : kd = 3
    · subst n3; exact act3_in k HP hk hk2 hn v
    by_cases n4 : kd = 4
    · subst n4; exact act4_in k HP hn v
    by_cases n5 : kd = 5
    · subst n5; exact act5_in k HP hk hn v
    by_cases n6 : kd = 6
    · subst n6; exact act6_in k HP hk hn v
    exact act7_in k HP hk hn kd n1 n2 n3 n4 n5 n6 v
  · by_cases n3 : kd = 3
    · subst n3; exact act3_out HP hn hd ho v
    by_cases n4 : kd = 4
    · subst n4; exact act4_out HP hn hd ho v
    by_cases n5 : kd = 5
    · subst n5; exact act5_out HP hn hd ho v
    by_cases n6 : kd = 6
    · subst n6; exact act6_out HP hn hd ho v
    exact act7_out HP hn hd ho kd n1 n2 n3 n4 n5 n6 v
end
/-- both, at the start -/
theorem alike_start {w w1 : World} {p : Nat} {va : Nat → ByteArray} (H : LA Value.string 60 58 (w.heap.size ≤ ·) w1 p [] [] va 0) (hs : w.heap.size ≤ w1.heap.size) :
    Alike (fun k => k < w.heap.size) (w1.alloc (.cells #[.slice none 0 0, .slice none 0 0, .int .i64 0] 30)) p w1.heap.size [] [] va 0 := by
  have hsz : (w1.alloc (.cells #[.slice none 0 0, .slice none 0 0, .int .i64 0] 30)).heap.size = w1.heap.size + 1 := by simp
  refine ⟨_, fun k => k = w1.heap.size, H.narrow.kept (D := fun _ => False) ((Keeps.refl _ w1).alloc _) (fun _ _ e => e),
    ⟨none, 0, none, 0, rfl, heap_alloc_new w1 _, World.ownsRow_nil _ _ _ _, World.ownsRow_nil _ _ _ _, by simp [Value.ownBlock], by simp [Value.ownBlock], by simp [Value.ownBlock], by simp [Value.ownBlock], by simp [Value.ownBlock]⟩, ?_, ?_, ?_⟩
  · rintro k ⟨e1, e2⟩
    refine ⟨?_, ?_, ?_⟩ <;> omega
  · rintro k rfl
    refine ⟨?_, ?_⟩ <;> omega
  · intro k e
    omega
end Go.Proofs.Ytgpjdcoikbmciaa
