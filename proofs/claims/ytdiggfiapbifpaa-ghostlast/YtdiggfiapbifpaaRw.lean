/- Rows of texts: what an append takes, what is read. -/
import Derived.Test.YtdiggfiapbifpaaAk
namespace Go.Proofs.Ytdiggfiapbifpaa
open Go.RowKit

/-- what came in, as what an append takes -/
theorem rowIn_src {w : World} {ad : Option Addr} {zs : List ByteArray} {cap : Nat} (h : RowIn Value.string w ad zs) : Src Try.prog 1 34 (.slice ad zs.length cap) zs.length (txs zs) w := by
  rcases h with h | ⟨g, off, rfl, h⟩
  · subst h
    cases ad with
    | none => exact Src.ofNil w Try.underlying34 cap
    | some x => exact Src.ofSlice w Try.underlying34 x 0 cap [] (by simp) (by simp) (by simp)
  · refine Src.ofSlice w Try.underlying34 _ _ _ _ (by rw [txs_len, Nat.mul_one]) (fun j u hu => ?_) (txs_one zs)
    have hj : j < zs.length := by have := lt_of_at hu; rwa [txs_len] at this
    rw [txs_at (List.getElem?_eq_getElem hj)] at hu
    cases hu
    rw [Addr.add_lit]
    exact h j _ (List.getElem?_eq_getElem hj)
theorem row_rowIn {D : Nat → Prop} {w : World} {ad : Option Addr} {cap : Nat} {zs : List ByteArray} (h : Row D w ad cap zs) : RowIn Value.string w ad zs := by
  cases zs with
  | nil => exact .inl rfl
  | cons z r =>
    obtain ⟨g, off, rfl, -⟩ := h.at (i := 0) (z := z) rfl
    refine .inr ⟨g, off, rfl, fun i y hy => ?_⟩
    obtain ⟨g2, o2, e, -, h2, -⟩ := h.at hy
    cases e
    exact h2
theorem below_store {w w' : World} (h : Below w.heap.size w w') {a : Addr} (ha : w.heap.size ≤ a.block) (u : Value) : Below w.heap.size w (w'.setCell a u) :=
  ((Keeps.of_below (D := fun k => w.heap.size ≤ k) h).setCell (p := a) ha u).below (Nat.le_refl _) (fun _ h => h)
theorem eqb_self (l : List ByteArray) : eqb l l = true := by unfold eqb; simp
end Go.Proofs.Ytdiggfiapbifpaa
