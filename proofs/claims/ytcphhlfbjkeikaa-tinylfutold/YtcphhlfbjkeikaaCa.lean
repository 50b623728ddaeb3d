/- Of an engine: Keys, Ghosts. -/
import Derived.Test.YtcphhlfbjkeikaaEo
namespace Go.Proofs.Ytcphhlfbjkeikaa
open Go.RowKit

/-- the keys of the first rows -/
def keysN (Q : Nat → List ByteArray) (n : Nat) : List ByteArray := (List.range n).flatMap Q
theorem keysN_more (Q : Nat → List ByteArray) (n : Nat) : keysN Q (n + 1) = keysN Q n ++ Q n := by simp [keysN, List.range_succ]
/-- a row of texts in a block of its own, told by its cells -/
def Cells (w : World) (ad : Option Addr) (ga : Nat) (zs : List ByteArray) : Prop := ∀ j k, zs[j]? = some k → ad = some ⟨ga, 0, none⟩ ∧ w.cell? ⟨ga, j, none⟩ = some (.string k)
theorem Cells.of {W w' : World} {ad : Option Addr} {cap ge : Nat} {zs : List ByteArray} (h : w'.ownsRow W.heap.size 9 1 (.slice ad zs.length cap) zs.length (zs.map Value.string)) (hge : ge < W.heap.size) (hs : W.heap.size ≤ w'.heap.size) : ∃ ga, Cells w' ad ga zs ∧ ga < w'.heap.size ∧ (ga = ge ∨ W.heap.size ≤ ga) := by
  cases zs with
  | nil => exact ⟨ge, fun j k hj => by simp at hj, by omega, .inl rfl⟩
  | cons z zs =>
    obtain ⟨g, cur, rfl, hb, hg, hc⟩ := Ls.ownsRow_block h (by simp)
    exact ⟨g, fun j k hj => ⟨rfl, hc j _ (by rw [List.getElem?_map, hj]; rfl)⟩, lt_of_block hg, .inr hb⟩
theorem Cells.keeps {E : Nat → Prop} {W w' : World} {ad : Option Addr} {ga : Nat} {zs : List ByteArray} (h : Cells W ad ga zs) (hk : Keeps E W w') (hg : ga < W.heap.size) (hE : ¬ E ga) : Cells w' ad ga zs :=
  fun j k hj => ⟨(h j k hj).1, by rw [World.cell?_of_block (hk.block ga hg hE)]; exact (h j k hj).2⟩
section
variable {D : Nat → Prop} {w : World} {e : Nat} {s : Stt} {m : ByteArray → Option Ix.Sp} {z : Dk}
theorem keysN_all (s : Stt) : keysN (qs s) 3 = A.keys s := by simp [keysN, List.range_succ, qs, A.keys]
theorem keysN_len (H : MA e z s m D w) : ∀ n, n ≤ 3 → (keysN (qs s) n).length ≤ n * 20000 := by
  intro n
  induction n with
  | zero => intro _; simp [keysN]
  | succ n ih =>
    intro hn
    have h1 := ih (by omega)
    have h2 := H.lens (i := n) (by omega)
    rw [keysN_more, List.length_append]
    omega
theorem make_row (n : Nat) (hn : n ≤ 1000000) : ∃ cs : Array Value, cs.size = n ∧ ∀ W : World, (Instr.makeSlice 22 (.int .i64 0) (.int .i64 (n : Nat))).run Try.prog W = .ok (.slice (some ⟨W.heap.size, 0, none⟩) 0 n) (W.alloc (.cells cs 9)) := by
  obtain ⟨i0, hi, hz0, hz1, hz2⟩ := info_string
  refine ⟨madeCells (Value.string ByteArray.empty).cells (n * 1), by simp [madeCells], fun W => ?_⟩
  have h := run_make (P := Try.prog) W 22 9 i0 _ Try.underlying22 hi hz0 .i64 .i64 0 (n : Int) (by omega) (by omega) (by rw [hz2]; omega) (by omega)
  rw [hz1] at h
  simpa using h
theorem index_0 (a0 a1 a2 : Option Addr) (W : World) : (Instr.index 44 (.agg #[.pointer a0, .pointer a1, .pointer a2]) (.int .i64 0)).run Try.prog W = .ok (.pointer a0) W := by kernel_rfl
theorem index_1 (a0 a1 a2 : Option Addr) (W : World) : (Instr.index 44 (.agg #[.pointer a0, .pointer a1, .pointer a2]) (.int .i64 1)).run Try.prog W = .ok (.pointer a1) W := by kernel_rfl
theorem index_2 (a0 a1 a2 : Option Addr) (W : World) : (Instr.index 44 (.agg #[.pointer a0, .pointer a1, .pointer a2]) (.int .i64 2)).run Try.prog W = .ok (.pointer a2) W := by kernel_rfl
end
end Go.Proofs.Ytcphhlfbjkeikaa
