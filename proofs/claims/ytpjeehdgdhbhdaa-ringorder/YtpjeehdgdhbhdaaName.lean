/- A text of a number: what name answers. -/
import Derived.Test.YtpjeehdgdhbhdaaArgs
import Derived.Test.YtpjeehdgdhbhdaaStr3
import Derived.Laws.BytesString
namespace Go.Proofs.Ytpjeehdgdhbhdaa
open Go.RowKit

/-- the text of a number -/
def nm (n : Nat) : ByteArray := [(97 + (n : Int) % 26), (97 + (n : Int) / 26 % 26)].foldl (fun r n => r.push (UInt8.ofNat n.toNat)) ByteArray.empty
theorem name_text (w : World) (n : Nat) : Sem.run Try.prog (convert 52 9 (Value.slice (some ⟨w.heap.size, 0, none⟩) 2 2)) (w.alloc (Obj.cells #[Value.int IntKind.u8 (97 + (n : Int) % 26), Value.int IntKind.u8 (97 + (n : Int) / 26 % 26)] 5)) =
    .ok (.string (nm n)) (w.alloc (Obj.cells #[Value.int IntKind.u8 (97 + (n : Int) % 26), Value.int IntKind.u8 (97 + (n : Int) / 26 % 26)] 5)) := by
  rw [run_convert_bytes_string _ 52 9 5 _ 2 2 Try.underlying52 Try.underlying5 Try.underlying9]
  refine run_bytesToString _ _ 2 2 [(97 + (n : Int) % 26), (97 + (n : Int) / 26 % 26)] ?_
  refine run_loadCells_list (P := Try.prog) _ ⟨w.heap.size, 0, none⟩ [Value.int IntKind.u8 (97 + (n : Int) % 26), Value.int IntKind.u8 (97 + (n : Int) / 26 % 26)] ?_
  intro j v hv
  rw [show (⟨w.heap.size, 0, none⟩ : Addr).add j = ⟨w.heap.size, j, none⟩ by simp [Addr.add_lit], cell_of_block (heap_alloc_new w _)]
  simpa using hv
set_option maxHeartbeats 1000000 in
theorem name_any (n : Nat) (hn : n ≤ 1000) (w : World) : Calls Try.prog 21 #[.int .i64 (n : Nat)] w fun e w' => e = .returned (.string (nm n)) ∧ Below w.heap.size w w' := by
  have ht := name_text w n
  go_enter Try.func21, Try.ntmps21
  go_wp2
  go_ret
  exact ⟨rfl, (Below.refl _ w).alloc (Nat.le_refl _) _⟩
end Go.Proofs.Ytpjeehdgdhbhdaa
