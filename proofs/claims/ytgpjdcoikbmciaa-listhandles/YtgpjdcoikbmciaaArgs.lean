/- What came in: rows of texts, of numbers, of bools, of acts: their cells. -/
import Derived.Test.YtgpjdcoikbmciaaStr4
import Derived.Deep.Strs
import Derived.ProofKit
import Derived.OpenShut
import Derived.SizedLaws
namespace Go.Proofs.Ytgpjdcoikbmciaa
open Go.RowKit Go.ChangeShapes Go.WideShapes

theorem plain_addr {w : World} {x : Addr} {v : Value} (h : w.cell? (x.add 0) = some v) : x = ⟨x.block, x.off, none⟩ := by
  obtain ⟨b, off, spot⟩ := x
  have hs : spot = none := by simpa [Addr.add] using World.cell?_spot h
  subst hs
  rfl
/-- cells behind a slice, one each -/
def RowIn {β : Type} (V : β → Value) (w : World) (ad : Option Addr) (zs : List β) : Prop :=
  zs = [] ∨ ∃ g off, ad = some ⟨g, off, none⟩ ∧ ∀ i z, zs[i]? = some z → w.cell? ⟨g, off + i, none⟩ = some (V z)
theorem row_in {β : Type} [Inhabited β] {V : β → Value} {w : World} {x : Addr} {n : Nat} {f : Nat → β} (h : ∀ i, i < n → w.cell? (x.add i) = some (V (f i))) : RowIn V w (some x) ((List.range n).map f) := by
  rcases Nat.eq_zero_or_pos n with h0 | h0
  · subst h0; exact .inl rfl
  · have hx := plain_addr (h 0 h0)
    rw [hx] at h ⊢
    refine .inr ⟨_, _, rfl, fun i z hz => ?_⟩
    rw [List.getElem?_map] at hz
    by_cases hi : i < n
    · rw [List.getElem?_range hi] at hz
      simp at hz
      have := h i hi
      rw [add_plain] at this
      rw [this, hz]
    · simp [hi] at hz
theorem RowIn.later {β : Type} {V : β → Value} {w w' : World} {ad : Option Addr} {zs : List β} (h : RowIn V w ad zs) (hb : Below w.heap.size w w') : RowIn V w' ad zs := by
  rcases h with h | ⟨g, off, e, h⟩
  · exact .inl h
  · exact .inr ⟨g, off, e, fun i z hz => cell_later hb (h i z hz)⟩
theorem RowIn.at {β : Type} {V : β → Value} {w : World} {ad : Option Addr} {zs : List β} (h : RowIn V w ad zs) {i : Nat} {z : β} (hz : zs[i]? = some z) : ∃ g off, ad = some ⟨g, off, none⟩ ∧ w.cell? ⟨g, off + i, none⟩ = some (V z) := by
  rcases h with h | ⟨g, off, e, h⟩
  · subst h; simp at hz
  · exact ⟨g, off, e, h i z hz⟩
theorem RowIn.texts {w : World} {ad : Option Addr} {zs : List ByteArray} (h : RowIn Value.string w ad zs) : TextsAt w ad zs := by
  rcases h with h | ⟨g, off, e, h⟩
  · exact .inl h
  · refine .inr ⟨g, off, e, fun i hi => h i _ ?_⟩
    simp [List.getD, List.getElem?_eq_getElem hi]
section
variable {H : Type} {enc : TypeId × Value → H} {W : World} {a : Option Addr} {len cap : Nat} {d : DataW H} {ps : List MemPlace}
theorem mem_weightsAll {P : Program} {e : TypeId} {x : DataW H} {y : Nat} : ∀ {l : List (DataW H)}, x ∈ l → y ∈ DataW.weights P e x → y ∈ DataW.weightsAll P e l
  | z :: l, hx, hy => by
    rw [DataW.weightsAll, List.mem_append]
    rcases List.mem_cons.1 hx with rfl | hx
    · exact .inl hy
    · exact .inr (mem_weightsAll hx hy)
theorem open_texts (h : DataW.Trod enc Try.prog W 0 (fun _ => true) true 36 (.slice a len cap) d ps) : ∃ zs : List ByteArray, zs.length = len ∧ len ≤ maxLen ∧ RowIn Value.string W a zs ∧ ∀ z ∈ zs, z.size ∈ DataW.weights Try.prog 36 d := by
  obtain ⟨fuel, hf⟩ := h
  rcases Go.Deep.open_strs Try.underlying36 Try.underlying9 (by kernel_rfl) hf with ⟨hcs, _⟩ | ⟨x, l, c, m, Sx, hcs, _, hl, hm, hmm, hd, hcell⟩
  · simp [Value.cells] at hcs
    obtain ⟨rfl, rfl, rfl⟩ := hcs
    exact ⟨[], rfl, Nat.zero_le _, .inl rfl, by simp⟩
  · simp [Value.cells] at hcs
    obtain ⟨rfl, rfl, rfl⟩ := hcs
    have hlm : len ≤ m := by rw [hmm]; simp; omega
    refine ⟨(List.range len).map Sx, by simp, by omega, row_in (fun i hi => (hcell i (by omega)).1), ?_⟩
    intro z hz
    simp at hz
    obtain ⟨i, hi, rfl⟩ := hz
    simp only [Prod.mk.injEq] at hd
    rw [hd.1, DataW.weights, Try.underlying36]
    refine List.mem_cons_of_mem _ (List.mem_append_left _ ?_)
    refine mem_weightsAll (x := .lit (.string (Sx i).data.toList)) (List.mem_map.2 ⟨i, by simpa using hi, rfl⟩) ?_
    simp [DataW.weights]
theorem reach_first {t : TypeId} {ts : List TypeId} {ds : List (DataW H)} {n : Nat} (hsz : (DataW.weightsEach Try.prog (t :: ts) (d :: ds)).all (· ≤ reachBytes) = true) (h : n ∈ DataW.weights Try.prog t d) : n ≤ 140737488351232 := by
  have := List.all_eq_true.1 hsz n (by rw [DataW.weightsEach]; exact List.mem_append_left _ h)
  exact of_decide_eq_true this
theorem open_bools (h : DataW.Trod enc Try.prog W 0 (fun _ => true) true 39 (.slice a len cap) d ps) : ∃ zs : List Bool, zs.length = len ∧ len ≤ maxLen ∧ RowIn Value.bool W a zs := by
  obtain ⟨fuel, hf⟩ := h
  rcases Go.Deep.open_slice1 Try.underlying39 (by kernel_rfl) hf with ⟨hcs, _⟩ | ⟨x, l, c, m, n, V, D, Pl, hcs, _, hl, hm, hmm, _, hcell⟩
  · simp [Value.cells] at hcs
    obtain ⟨rfl, rfl, rfl⟩ := hcs
    exact ⟨[], rfl, Nat.zero_le _, .inl rfl⟩
  · simp [Value.cells] at hcs
    obtain ⟨rfl, rfl, rfl⟩ := hcs
    have hlm : len ≤ m := by rw [hmm]; simp; omega
    have each : ∀ i, i < m → ∃ b : Bool, V i = .bool b := fun i hi => by
      obtain ⟨b, h1, _⟩ := DataW.trod_bool Try.underlying4 (hcell i hi).2
      exact ⟨b, by simpa using h1⟩
    obtain ⟨f, hf⟩ := Go.Deep.choose_lt each
    exact ⟨(List.range len).map f, by simp, by omega, row_in (fun i hi => by rw [(hcell i (by omega)).1, hf i (by omega)])⟩
theorem open_nums (h : DataW.Trod enc Try.prog W 0 (fun _ => true) true 28 (.slice a len cap) d ps) : ∃ zs : List Int, zs.length = len ∧ len ≤ maxLen ∧ RowIn (Value.int .i64) W a zs ∧ ∀ z ∈ zs, (Lit.int .i64 z).wf = true := by
  obtain ⟨fuel, hf⟩ := h
  rcases Go.Deep.open_slice1 Try.underlying28 (by kernel_rfl) hf with ⟨hcs, _⟩ | ⟨x, l, c, m, n, V, D, Pl, hcs, _, hl, hm, hmm, _, hcell⟩
  · simp [Value.cells] at hcs
    obtain ⟨rfl, rfl, rfl⟩ := hcs
    exact ⟨[], rfl, Nat.zero_le _, .inl rfl, by simp⟩
  · simp [Value.cells] at hcs
    obtain ⟨rfl, rfl, rfl⟩ := hcs
    have hlm : len ≤ m := by rw [hmm]; simp; omega
    have each : ∀ i, i < m → ∃ b : Int, V i = .int .i64 b ∧ (Lit.int .i64 b).wf = true := fun i hi => by
      obtain ⟨b, h1, _, h3⟩ := DataW.trod_int Try.underlying3 (hcell i hi).2
      exact ⟨b, by simpa using h1, h3⟩
    obtain ⟨f, hf⟩ := Go.Deep.choose_lt each
    refine ⟨(List.range len).map f, by simp, by omega, row_in (fun i hi => by rw [(hcell i (by omega)).1, (hf i (by omega)).1]), ?_⟩
    intro z hz
    simp at hz
    obtain ⟨i, hi, rfl⟩ := hz
    exact (hf i (by omega)).2
/-- an act: its kind, its handle, its text -/
structure Deed where
  kind : Int
  h : Int
  s : ByteArray
  deriving Inhabited
def DeedsIn (w : World) (ad : Option Addr) (zs : List Deed) : Prop :=
  zs = [] ∨ ∃ g off, ad = some ⟨g, off, none⟩ ∧ ∀ i z, zs[i]? = some z → w.cell? ⟨g, off + i * 3, none⟩ = some (.int .i64 z.kind) ∧ w.cell? ⟨g, off + i * 3 + 1, none⟩ = some (.int .i64 z.h) ∧ w.cell? ⟨g, off + i * 3 + 2, none⟩ = some (.string z.s)
theorem DeedsIn.later {w w' : World} {ad : Option Addr} {zs : List Deed} (h : DeedsIn w ad zs) (hb : Below w.heap.size w w') : DeedsIn w' ad zs := by
  rcases h with h | ⟨g, off, e, h⟩
  · exact .inl h
  · exact .inr ⟨g, off, e, fun i z hz => ⟨cell_later hb (h i z hz).1, cell_later hb (h i z hz).2.1, cell_later hb (h i z hz).2.2⟩⟩
theorem DeedsIn.at {w : World} {ad : Option Addr} {zs : List Deed} (h : DeedsIn w ad zs) {i : Nat} {z : Deed} (hz : zs[i]? = some z) : ∃ g off, ad = some ⟨g, off, none⟩ ∧ w.cell? ⟨g, off + i * 3, none⟩ = some (.int .i64 z.kind) ∧ w.cell? ⟨g, off + i * 3 + 1, none⟩ = some (.int .i64 z.h) ∧ w.cell? ⟨g, off + i * 3 + 2, none⟩ = some (.string z.s) := by
  rcases h with h | ⟨g, off, e, h⟩
  · subst h; simp at hz
  · exact ⟨g, off, e, h i z hz⟩
theorem open_deeds (h : DataW.Trod enc Try.prog W 0 (fun _ => true) true 22 (.slice a len cap) d ps) : ∃ zs : List Deed, zs.length = len ∧ len ≤ maxLen ∧ DeedsIn W a zs ∧ ∀ z ∈ zs, (Lit.int .i64 z.kind).wf = true ∧ (Lit.int .i64 z.h).wf = true ∧ z.s.size ≤ maxLen := by
  obtain ⟨fuel, hf⟩ := h
  have c33 : Try.prog.cellsOf 33 = 3 := by kernel_rfl
  have c3 : Try.prog.cellsOf 3 = 1 := by kernel_rfl
  have c9 : Try.prog.cellsOf 9 = 1 := by kernel_rfl
  rcases Go.Deep.open_slice Try.underlying22 hf with ⟨hcs, _⟩ | ⟨x, l, c, m, n, D, Pl, hcs, _, hl, hm, hmm, _, hcell⟩
  · simp [Value.cells] at hcs
    obtain ⟨rfl, rfl, rfl⟩ := hcs
    exact ⟨[], rfl, Nat.zero_le _, .inl rfl, by simp⟩
  · simp [Value.cells] at hcs
    obtain ⟨rfl, rfl, rfl⟩ := hcs
    have hlm : len ≤ m := by rw [hmm]; simp; omega
    rw [c33] at hcell
    have each : ∀ i, i < m → ∃ z : Deed, (W.cell? ((x.add (i * 3)).add 0) = some (.int .i64 z.kind) ∧ W.cell? ((x.add (i * 3)).add 1) = some (.int .i64 z.h) ∧ W.cell? ((x.add (i * 3)).add 2) = some (.string z.s)) ∧ (Lit.int .i64 z.kind).wf = true ∧ (Lit.int .i64 z.h).wf = true ∧ z.s.size ≤ maxLen := fun i hi => by
      obtain ⟨cs, h1, h2⟩ := hcell i hi
      obtain ⟨_, hlen, hc⟩ := World.cells?_some h1
      obtain ⟨y0, y1, y2, n', _, _, t0, t1, t2⟩ := Go.Deep.trod_struct3 Try.underlying33 h2
      obtain ⟨k, e0, _, wk⟩ := DataW.trod_int Try.underlying3 t0
      obtain ⟨h, e1, _, wh⟩ := DataW.trod_int Try.underlying3 t1
      obtain ⟨s, e2, _, ws⟩ := DataW.trod_string Try.underlying9 t2
      match cs, hlen with
      | [v0, v1, v2], _ =>
        simp [c3] at e0 e1
        simp [c9] at e2
        subst e0 e1 e2
        exact ⟨⟨k, h, s⟩, ⟨hc 0 (by omega), hc 1 (by omega), hc 2 (by omega)⟩, wk, wh, ws⟩
    obtain ⟨f, hf⟩ := Go.Deep.choose_lt each
    refine ⟨(List.range len).map f, by simp, by omega, ?_, ?_⟩
    · rcases Nat.eq_zero_or_pos len with h0 | h0
      · subst h0; exact .inl rfl
      · have hx : x = ⟨x.block, x.off, none⟩ := by
          have := (hf 0 (by omega)).1.1
          exact plain_addr (w := W) (v := .int .i64 (f 0).kind) (by simpa [Addr.add] using this)
        rw [hx] at hf ⊢
        refine .inr ⟨_, _, rfl, fun i z hz => ?_⟩
        rw [List.getElem?_map] at hz
        by_cases hi : i < len
        · rw [List.getElem?_range hi] at hz
          simp at hz
          have := (hf i (by omega)).1
          simp only [add_plain, Nat.add_zero] at this
          rw [← hz]
          exact this
        · simp [hi] at hz
    · intro z hz
      simp at hz
      obtain ⟨i, hi, rfl⟩ := hz
      exact (hf i (by omega)).2
end
end Go.Proofs.Ytgpjdcoikbmciaa
