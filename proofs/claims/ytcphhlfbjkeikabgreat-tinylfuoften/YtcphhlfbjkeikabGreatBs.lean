/- What is told beside a thing: a row of texts that is none of its own. -/
import Derived.Test.YtcphhlfbjkeikabGreatTx
import Derived.Test.YtcphhlfbjkeikabGreatPure
namespace Go.Proofs.YtcphhlfbjkeikabGreat
open Go.RowKit

abbrev Stt := A.St ByteArray
/-- a thing in memory, and beside it a row of texts that is none of its own -/
def Beside (A : (Nat → Prop) → World → Prop) (ad : Option Addr) (cap : Nat) (zs : List ByteArray) (D : Nat → Prop) (w : World) : Prop :=
  ∃ D1 : Nat → Prop, (∀ g, D1 g → D g ∧ g < w.heap.size) ∧ A D1 w ∧ Row (fun g => D g ∧ ¬ D1 g) w ad cap zs
theorem row_lit {E : Nat → Prop} {w : World} (k : ByteArray) (h : E w.heap.size) : Row E (w.alloc (.cells #[.string k] 9)) (some ⟨w.heap.size, 0, none⟩) 1 [k] := by
  refine ⟨by simp, by unfold maxLen; omega, fun _ => ⟨_, 0, _, rfl, h, heap_alloc_new _ _, by simp, fun i z hz => ?_⟩⟩
  cases i with
  | zero => simp at hz; subst hz; rfl
  | succ i => simp at hz
/-- each key at most once -/
def Single (s : Stt) : Prop := ∀ k, A.cnt k s.t1 + A.cnt k s.t2 + A.cnt k s.b1 ≤ 1
end Go.Proofs.YtcphhlfbjkeikabGreat
