/- What came in: a row of acts; hoardlaw16.heavy. -/
import Derived.Test.YtdiggfiapbifpaaAg
import Derived.Deep.Upon
namespace Go.Proofs.Ytdiggfiapbifpaa
open Go.RowKit Go.ChangeShapes Go.WideShapes

section
variable {H : Type} {enc : TypeId × Value → H} {W : World} {a : Option Addr} {len cap : Nat} {d : DataW H} {ps : List MemPlace}
/-- an act: its kind, its key -/
structure Deed where
  kind : Int
  s : ByteArray
  deriving Inhabited
def DeedsIn (w : World) (ad : Option Addr) (zs : List Deed) : Prop :=
  zs = [] ∨ ∃ g off, ad = some ⟨g, off, none⟩ ∧ ∀ i z, zs[i]? = some z → w.cell? ⟨g, off + i * 2, none⟩ = some (.int .i64 z.kind) ∧ w.cell? ⟨g, off + i * 2 + 1, none⟩ = some (.string z.s)
theorem DeedsIn.later {w w' : World} {ad : Option Addr} {zs : List Deed} (h : DeedsIn w ad zs) (hb : Below w.heap.size w w') : DeedsIn w' ad zs := by
  rcases h with h | ⟨g, off, e, h⟩
  · exact .inl h
  · exact .inr ⟨g, off, e, fun i z hz => ⟨cell_later hb (h i z hz).1, cell_later hb (h i z hz).2⟩⟩
theorem DeedsIn.at {w : World} {ad : Option Addr} {zs : List Deed} (h : DeedsIn w ad zs) {i : Nat} {z : Deed} (hz : zs[i]? = some z) : ∃ g off, ad = some ⟨g, off, none⟩ ∧ w.cell? ⟨g, off + i * 2, none⟩ = some (.int .i64 z.kind) ∧ w.cell? ⟨g, off + i * 2 + 1, none⟩ = some (.string z.s) := by
  rcases h with h | ⟨g, off, e, h⟩
  · subst h; simp at hz
  · exact ⟨g, off, e, h i z hz⟩
set_option maxRecDepth 20000 in
theorem open_deeds (h : DataW.Trod enc Try.prog W 0 (fun _ => true) true 22 (.slice a len cap) d ps) : ∃ zs : List Deed, zs.length = len ∧ len ≤ maxLen ∧ DeedsIn W a zs ∧ ∀ z ∈ zs, (Lit.int .i64 z.kind).wf = true ∧ z.s.size ≤ maxLen := by
  obtain ⟨fuel, hf⟩ := h
  have c33 : Try.prog.cellsOf 29 = 2 := by kernel_rfl
  have c3 : Try.prog.cellsOf 3 = 1 := by kernel_rfl
  have c9 : Try.prog.cellsOf 9 = 1 := by kernel_rfl
  rcases Go.Deep.open_slice Try.underlying22 hf with ⟨hcs, _⟩ | ⟨x, l, c, m, n, D, Pl, hcs, _, hl, hm, hmm, _, hcell⟩
  · simp [Value.cells] at hcs
    obtain ⟨rfl, rfl, rfl⟩ := hcs
    exact ⟨[], rfl, Nat.zero_le _, .inl rfl, by simp⟩
  · simp [Value.cells] at hcs
    obtain ⟨rfl, rfl, rfl⟩ := hcs
    have hlm : len ≤ m := by rw [hmm]; simp; omega
    rw [c33] at hcell
    have each : ∀ i, i < m → ∃ z : Deed, (W.cell? ((x.add (i * 2)).add 0) = some (.int .i64 z.kind) ∧ W.cell? ((x.add (i * 2)).add 1) = some (.string z.s)) ∧ (Lit.int .i64 z.kind).wf = true ∧ z.s.size ≤ maxLen := fun i hi => by
      obtain ⟨cs, h1, h2⟩ := hcell i hi
      obtain ⟨_, hlen, hc⟩ := World.cells?_some h1
      obtain ⟨xs, n', _, _, _, hlen2, hf2⟩ := DataW.trod_struct Try.underlying29 h2
      match xs, hlen2 with
      | [y0, y1], _ =>
        have t0 := hf2 0 _ rfl
        have t1 := hf2 1 _ rfl
        obtain ⟨k, e0, _, wk⟩ := DataW.trod_int Try.underlying3 t0
        obtain ⟨s, e2, _, ws⟩ := DataW.trod_string Try.underlying9 t1
        match cs, hlen with
        | [v0, v1], _ =>
          simp [c3] at e0
          simp [c9] at e2
          subst e0 e2
          exact ⟨⟨k, s⟩, ⟨hc 0 (by omega), hc 1 (by omega)⟩, wk, ws⟩
    obtain ⟨f, hf⟩ := Go.Deep.choose_lt each
    refine ⟨(List.range len).map f, by simp, by omega, ?_, ?_⟩
    · rcases Nat.eq_zero_or_pos len with h0 | h0
      · subst h0; exact .inl rfl
      · have hx : x = ⟨x.block, x.off, none⟩ := by
          have := (hf 0 (by omega)).1.1
          exact plain_addr (w := W) (v := .int .i64 (f 0).kind) (by simpa [Addr.add] using this)
        rw [hx] at hf ⊢
        refine .inr ⟨_, _, rfl, fun i z hz => ?_⟩
        rw [List.getElem?_map] at hz
        by_cases hi : i < len
        · rw [List.getElem?_range hi] at hz
          simp at hz
          have := (hf i (by omega)).1
          simp only [add_plain, Nat.add_zero] at this
          rw [← hz]
          exact this
        · simp [hi] at hz
    · intro z hz
      simp at hz
      obtain ⟨i, hi, rfl⟩ := hz
      exact (hf i (by omega)).2
end
/-- texts of the first k acts that are looked at are short -/
def Light (zs : List Deed) (k : Nat) : Prop := ∀ (j : Nat) (z : Deed), j < k → zs[j]? = some z → z.s.size ≤ 40
def HeavyIs (zs : List Deed) (e : Ending) : Prop := ∃ b, e = .returned (.bool b) ∧ (b = false → Light zs 200)
theorem Light.more {zs : List Deed} {k : Nat} {z : Deed} (h : Light zs k) (hz : zs[k]? = some z) (hs : z.s.size ≤ 40) : Light zs (k + 1) := by
  intro j y hj hy
  rcases Nat.lt_or_ge j k with c | c
  · exact h j y c hy
  · have e : j = k := by omega
    subst e
    rw [hz] at hy
    cases hy
    exact hs
theorem Light.all {zs : List Deed} {k : Nat} (h : Light zs k) (hk : zs.length ≤ k ∨ 200 ≤ k) : Light zs 200 := by
  intro j y hj hy
  rcases hk with hk | hk
  · exact h j y (by have := lt_of_at hy; omega) hy
  · exact h j y (by omega) hy
set_option maxRecDepth 20000 in
set_option maxHeartbeats 1000000 in
theorem heavy_any {w : World} {ad : Option Addr} {cap : Nat} {zs : List Deed} (h : DeedsIn w ad zs) (hm : zs.length ≤ maxLen) (hz : ∀ z ∈ zs, z.s.size ≤ maxLen) :
    Calls Try.prog 7 #[.slice ad zs.length cap] w fun e w' => HeavyIs zs e ∧ w' = w := by
  have hm' : zs.length ≤ 9223372036854775807 := by unfold maxLen at hm; omega
  have HD : Hid _ := h
  have HS : Hid _ := hz
  clear h hm hz
  go_enter Try.func7, Try.ntmps7
  go_wp2
  go_loop [3] (fun i => ∃ k : Nat, k ≤ zs.length ∧ i = .int .i64 k ∧ Light zs k) (fun i => zs.length - (intOf i).toNat)
  case atStart => exact ⟨0, Nat.zero_le _, rfl, fun j z hj => by omega⟩
  case round =>
    obtain ⟨k, hk, rfl, hL⟩ := hrel
    have HL : Hid (Light zs k) := hL
    clear hL
    rcases Nat.lt_or_ge k zs.length with hlt | hge
    · by_cases h200 : k < 200
      · obtain ⟨z, hz⟩ : ∃ z, zs[k]? = some z := ⟨_, List.getElem?_eq_getElem hlt⟩
        obtain ⟨g, off, rfl, c0, c1⟩ := DeedsIn.at HD.out hz
        have hsz : z.s.size ≤ 9223372036854775807 := by have := HS.out z (List.mem_of_getElem? hz); unfold maxLen at this; omega
        have h200' : (k : Int) < 200 := by omega
        have HZ : Hid (zs[k]? = some z) := hz
        clear hz
        by_cases hs : z.s.size ≤ 40
        · go_wp2
          go_round
          case rel => exact ⟨k + 1, hlt, by go_num, HL.out.more HZ.out hs⟩
          case measure => simp [intOf]; omega
        · go_wp2
          go_ret
          exact ⟨⟨true, rfl, fun e => by cases e⟩, rfl⟩
      · have h200' : ¬ ((k : Int) < 200) := by omega
        go_wp2
        go_ret
        exact ⟨⟨false, rfl, fun _ => HL.out.all (.inr (by omega))⟩, rfl⟩
    · go_wp2
      go_ret
      exact ⟨⟨false, rfl, fun _ => HL.out.all (.inl (by omega))⟩, rfl⟩
end Go.Proofs.Ytdiggfiapbifpaa
