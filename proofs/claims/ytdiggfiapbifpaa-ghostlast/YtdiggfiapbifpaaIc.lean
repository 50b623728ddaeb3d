/- An index: its slots in memory and what they say, as one; how many keys; Clone. -/
import Derived.Test.YtdiggfiapbifpaaIp
import Derived.Test.YtdiggfiapbifpaaMx
import Derived.Test.YtdiggfiapbifpaaSh
import Derived.WideShapes
namespace Go.Proofs.Ytdiggfiapbifpaa.Ix
open Go.RowKit
/-- a key's number -/
def hs (seed : Nat) (k : ByteArray) : Nat := hsh seed k.size k.data.toList
theorem hs_lt (seed : Nat) (k : ByteArray) : hs seed k < 18446744073709551616 := hsh_lt _ _ _
theorem bytes_beq (x y : ByteArray) : (x.toList == y.toList) = decide (x = y) := by
  by_cases h : x = y
  · subst h; simp
  · have : ¬ x.toList = y.toList := by
      intro e
      rw [ByteArray.toList_eq, ByteArray.toList_eq] at e
      exact h (Go.WideShapes.bytes_inj e)
    simp [h, this]
/-- the first mark that was met -/
def Mark {α : Type} (sl : List (Sl α)) (h d : Nat) (M : Int) : Prop := M = -1 ∨ ∃ (e : Nat) (t : Sl α), e < d ∧ M = (((h + e) % sl.length : Nat) : Int) ∧ sl[(h + e) % sl.length]? = some t ∧ t.st = 1
theorem Mark.next {α : Type} {sl : List (Sl α)} {h d : Nat} {M : Int} (hm : Mark sl h d M) : Mark sl h (d + 1) M := by
  rcases hm with hm | ⟨e, t, h1, h2⟩
  · exact .inl hm
  · exact .inr ⟨e, t, by omega, h2⟩
theorem Mark.free {α : Type} {sl : List (Sl α)} {h d : Nat} {M : Int} (hm : Mark sl h d M) (h0 : 0 ≤ M) (hw : ∀ e, e < d → ∃ t : Sl α, sl[(h + e) % sl.length]? = some t ∧ t.st ≠ 0) : ∃ j : Nat, M = j ∧ Free sl h j := by
  rcases hm with hm | ⟨e, t, h1, h2, h3, h4⟩
  · omega
  · exact ⟨_, h2, t, e, h3, by omega, rfl, fun e' he' => hw e' (by omega)⟩

/-- an index in memory: which key has which value; no more than b keys were put -/
def IX {α : Type} (V : α → Value) (te tl : TypeId) (D : Nat → Prop) (w : World) (p : Nat) (m : ByteArray → Option α) (b : Nat) : Prop :=
  ∃ (seed : Nat) (sl : List (Sl α)) (used count : Nat) (ad : Option Addr), seed < 18446744073709551616 ∧ IndexIn V te tl D w p seed sl used count ad ∧ Ok (hs seed) sl used count b m
section
variable {α : Type} {V : α → Value} {te tl : TypeId} {D : Nat → Prop} {w w' : World} {p b : Nat} {m : ByteArray → Option α}
theorem IX.kept {D' : Nat → Prop} (h : IX V te tl D w p m b) (hk : Keeps D' w w') (hd : ∀ k, D k → ¬ D' k) : IX V te tl D w' p m b := by
  obtain ⟨seed, sl, u, c, ad, h1, h, o⟩ := h; exact ⟨seed, sl, u, c, ad, h1, h.kept hk hd, o⟩
theorem IX.below (h : IX V te tl D w p m b) (hb : Below w.heap.size w w') : IX V te tl D w' p m b := by
  obtain ⟨seed, sl, u, c, ad, h1, h, o⟩ := h; exact ⟨seed, sl, u, c, ad, h1, h.below hb, o⟩
theorem IX.drewN (h : IX V te tl D w p m b) (q : Nat) : IX V te tl D (w.drewN q) p m b := by
  obtain ⟨seed, sl, u, c, ad, h1, h, o⟩ := h; exact ⟨seed, sl, u, c, ad, h1, h.drewN q, o⟩
theorem IX.narrow (h : IX V te tl D w p m b) : IX V te tl (fun k => D k ∧ k < w.heap.size) w p m b := by
  obtain ⟨seed, sl, u, c, ad, h1, h, o⟩ := h; exact ⟨seed, sl, u, c, ad, h1, h.narrow, o⟩
theorem IX.wide {D' : Nat → Prop} (h : IX V te tl D w p m b) (hD : ∀ k, D k → D' k) : IX V te tl D' w p m b := by
  obtain ⟨seed, sl, u, c, ad, h1, h, o⟩ := h; exact ⟨seed, sl, u, c, ad, h1, h.wide hD, o⟩
theorem IX.more {b' : Nat} (h : IX V te tl D w p m b) (hb : b ≤ b') : IX V te tl D w p m b' := by
  obtain ⟨seed, sl, u, c, ad, h1, h, o⟩ := h; exact ⟨seed, sl, u, c, ad, h1, h, o.more hb⟩
/-- an empty index, just made -/
theorem IX.made (V : α → Value) (te tl : TypeId) {D : Nat → Prop} {w : World} (hD : D w.heap.size) (seed : Nat) (hs0 : seed < 18446744073709551616) :
    IX V te tl D (w.alloc (.cells #[.int .u64 (seed : Nat), .slice none 0 0, .int .i64 0, .int .i64 0] tl)) w.heap.size (fun _ => none) 0 :=
  ⟨seed, [], 0, 0, none, hs0, ⟨hD, heap_alloc_new w _, .inl rfl⟩, Ok.empty _ _⟩

end
theorem clone_any (s : ByteArray) (hs0 : s.size ≤ 1000) (w : World) : Calls Try.prog 26 #[.string s] w fun e w' => e = .returned (.string s) ∧ Below w.heap.size w w' := by
  go_enter Try.func26, Try.ntmps26
  go_wp2_with (go_at_call 39; refine (clone_lib s w (by omega)).mono ?_; rintro e w1 ⟨rfl, hb⟩)
  go_ret
  exact ⟨rfl, hb⟩
end Go.Proofs.Ytdiggfiapbifpaa.Ix
