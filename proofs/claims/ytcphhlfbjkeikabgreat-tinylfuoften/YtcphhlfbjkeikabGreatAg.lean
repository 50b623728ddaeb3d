/- What came in: rows of texts; hoardlaw14.long. -/
import Derived.Test.YtcphhlfbjkeikabGreatEs
import Derived.Deep.Strs
import Derived.ProofKit
import Derived.OpenShut
import Derived.SizedLaws
import Derived.WideShapes
namespace Go.Proofs.YtcphhlfbjkeikabGreat
open Go.RowKit Go.ChangeShapes Go.WideShapes

theorem plain_addr {w : World} {x : Addr} {v : Value} (h : w.cell? (x.add 0) = some v) : x = ⟨x.block, x.off, none⟩ := by
  obtain ⟨b, off, spot⟩ := x
  have hs : spot = none := by simpa [Addr.add] using World.cell?_spot h
  subst hs
  rfl
/-- cells behind a slice, one each -/
def RowIn {β : Type} (V : β → Value) (w : World) (ad : Option Addr) (zs : List β) : Prop :=
  zs = [] ∨ ∃ g off, ad = some ⟨g, off, none⟩ ∧ ∀ i z, zs[i]? = some z → w.cell? ⟨g, off + i, none⟩ = some (V z)
theorem row_in {β : Type} [Inhabited β] {V : β → Value} {w : World} {x : Addr} {n : Nat} {f : Nat → β} (h : ∀ i, i < n → w.cell? (x.add i) = some (V (f i))) : RowIn V w (some x) ((List.range n).map f) := by
  rcases Nat.eq_zero_or_pos n with h0 | h0
  · subst h0; exact .inl rfl
  · have hx := plain_addr (h 0 h0)
    rw [hx] at h ⊢
    refine .inr ⟨_, _, rfl, fun i z hz => ?_⟩
    rw [List.getElem?_map] at hz
    by_cases hi : i < n
    · rw [List.getElem?_range hi] at hz
      simp at hz
      have := h i hi
      rw [add_plain] at this
      rw [this, hz]
    · simp [hi] at hz
theorem RowIn.later {β : Type} {V : β → Value} {w w' : World} {ad : Option Addr} {zs : List β} (h : RowIn V w ad zs) (hb : Below w.heap.size w w') : RowIn V w' ad zs := by
  rcases h with h | ⟨g, off, e, h⟩
  · exact .inl h
  · exact .inr ⟨g, off, e, fun i z hz => cell_later hb (h i z hz)⟩
theorem RowIn.at {β : Type} {V : β → Value} {w : World} {ad : Option Addr} {zs : List β} (h : RowIn V w ad zs) {i : Nat} {z : β} (hz : zs[i]? = some z) : ∃ g off, ad = some ⟨g, off, none⟩ ∧ w.cell? ⟨g, off + i, none⟩ = some (V z) := by
  rcases h with h | ⟨g, off, e, h⟩
  · subst h; simp at hz
  · exact ⟨g, off, e, h i z hz⟩
section
variable {H : Type} {enc : TypeId × Value → H} {W : World} {a : Option Addr} {len cap : Nat} {d : DataW H} {ps : List MemPlace}
theorem mem_weightsAll {P : Program} {e : TypeId} {x : DataW H} {y : Nat} : ∀ {l : List (DataW H)}, x ∈ l → y ∈ DataW.weights P e x → y ∈ DataW.weightsAll P e l
  | z :: l, hx, hy => by
    rw [DataW.weightsAll, List.mem_append]
    rcases List.mem_cons.1 hx with rfl | hx
    · exact .inl hy
    · exact .inr (mem_weightsAll hx hy)
theorem open_texts (h : DataW.Trod enc Tryz.prog W 0 (fun _ => true) true 22 (.slice a len cap) d ps) : ∃ zs : List ByteArray, zs.length = len ∧ len ≤ maxLen ∧ RowIn Value.string W a zs ∧ ∀ z ∈ zs, z.size ∈ DataW.weights Tryz.prog 22 d := by
  obtain ⟨fuel, hf⟩ := h
  rcases Go.Deep.open_strs Tryz.underlying22 Tryz.underlying9 (by kernel_rfl) hf with ⟨hcs, _⟩ | ⟨x, l, c, m, Sx, hcs, _, hl, hm, hmm, hd, hcell⟩
  · simp [Value.cells] at hcs
    obtain ⟨rfl, rfl, rfl⟩ := hcs
    exact ⟨[], rfl, Nat.zero_le _, .inl rfl, by simp⟩
  · simp [Value.cells] at hcs
    obtain ⟨rfl, rfl, rfl⟩ := hcs
    have hlm : len ≤ m := by rw [hmm]; simp; omega
    refine ⟨(List.range len).map Sx, by simp, by omega, row_in (fun i hi => (hcell i (by omega)).1), ?_⟩
    intro z hz
    simp at hz
    obtain ⟨i, hi, rfl⟩ := hz
    simp only [Prod.mk.injEq] at hd
    rw [hd.1, DataW.weights, Tryz.underlying22]
    refine List.mem_cons_of_mem _ (List.mem_append_left _ ?_)
    refine mem_weightsAll (x := .lit (.string (Sx i).data.toList)) (List.mem_map.2 ⟨i, by simpa using hi, rfl⟩) ?_
    simp [DataW.weights]
theorem reach_first {t : TypeId} {ts : List TypeId} {ds : List (DataW H)} {n : Nat} (hsz : (DataW.weightsEach Tryz.prog (t :: ts) (d :: ds)).all (· ≤ reachBytes) = true) (h : n ∈ DataW.weights Tryz.prog t d) : n ≤ 140737488351232 := by
  have := List.all_eq_true.1 hsz n (by rw [DataW.weightsEach]; exact List.mem_append_left _ h)
  exact of_decide_eq_true this
end
section
variable {H : Type} {t : TypeId} {ts : List TypeId} {d : DataW H} {ds : List (DataW H)}
theorem reach_tail (hsz : (DataW.weightsEach Tryz.prog (t :: ts) (d :: ds)).all (· ≤ reachBytes) = true) : (DataW.weightsEach Tryz.prog ts ds).all (· ≤ reachBytes) = true := by
  rw [DataW.weightsEach, List.all_append, Bool.and_eq_true] at hsz
  exact hsz.2
end
theorem texts_beq (x y : ByteArray) : (x.toList == y.toList) = decide (x = y) := by
  by_cases h : x = y
  · subst h; simp
  · have : ¬ x.toList = y.toList := by
      intro e
      rw [ByteArray.toList_eq, ByteArray.toList_eq] at e
      exact h (Go.WideShapes.bytes_inj e)
    simp [h, this]
/-- whether a row is more than is looked at -/
def lng (zs : List ByteArray) : Bool := decide (200 < zs.length) || zs.any (fun z => decide (40 < z.size))
theorem lng_no {zs : List ByteArray} (h : lng zs = false) : zs.length ≤ 200 ∧ ∀ z ∈ zs, z.size ≤ 40 := by
  unfold lng at h
  simp at h
  exact ⟨by omega, fun z hz => by have := h.2 z hz; omega⟩
theorem lng_at {zs : List ByteArray} {z : ByteArray} (h : z ∈ zs) (hs : ¬ z.size ≤ 40) : lng zs = true := by
  unfold lng
  simp
  exact .inr ⟨z, h, by omega⟩
theorem lng_ok {zs : List ByteArray} (h : zs.length ≤ 200) (hz : ∀ z ∈ zs, z.size ≤ 40) : lng zs = false := by
  unfold lng
  simp
  exact ⟨h, hz⟩
set_option maxRecDepth 20000 in
set_option maxHeartbeats 1000000 in
theorem long_any {w : World} {ad : Option Addr} {cap : Nat} {zs : List ByteArray} (h : RowIn Value.string w ad zs) (hm : zs.length ≤ maxLen) (hz : ∀ z ∈ zs, z.size ≤ 140737488351232) :
    Calls Tryz.prog 5 #[.slice ad zs.length cap] w fun e w' => e = .returned (.bool (lng zs)) ∧ w' = w := by
  have hm' : zs.length ≤ 9223372036854775807 := by unfold maxLen at hm; omega
  have HD : Hid _ := h
  have HS : Hid _ := hz
  clear h hm hz
  by_cases h200 : zs.length ≤ 200
  · have h200' : ¬ (200 < (zs.length : Int)) := by omega
    go_enter Tryz.func5, Tryz.ntmps5
    go_wp2
    go_loop [3] (fun i => ∃ k : Nat, k ≤ zs.length ∧ i = .int .i64 k ∧ ∀ (j : Nat) (z : ByteArray), j < k → zs[j]? = some z → z.size ≤ 40) (fun i => zs.length - (intOf i).toNat)
    case atStart => exact ⟨0, Nat.zero_le _, rfl, fun j z hj => by omega⟩
    case round =>
      obtain ⟨k, hk, rfl, hL⟩ := hrel
      have HL : Hid (∀ (j : Nat) (z : ByteArray), j < k → zs[j]? = some z → z.size ≤ 40) := hL
      clear hL
      rcases Nat.lt_or_ge k zs.length with hlt | hge
      · obtain ⟨z, hz⟩ : ∃ z, zs[k]? = some z := ⟨_, List.getElem?_eq_getElem hlt⟩
        obtain ⟨g, off, rfl, c0⟩ := RowIn.at HD.out hz
        have hsz : z.size ≤ 9223372036854775807 := by have := HS.out z (List.mem_of_getElem? hz); omega
        have HZ : Hid (zs[k]? = some z) := hz
        clear hz
        by_cases hs : z.size ≤ 40
        · go_wp2
          go_round
          case rel =>
            refine ⟨k + 1, hlt, by go_num, fun j y hj hy => ?_⟩
            rcases Nat.lt_or_ge j k with c | c
            · exact HL.out j y c hy
            · have e : j = k := by omega
              subst e
              rw [HZ.out] at hy
              cases hy
              exact hs
          case measure => simp [intOf]; omega
        · have HB : Hid (lng zs = true) := lng_at (List.mem_of_getElem? HZ.out) hs
          go_wp2
          go_ret
          exact ⟨by rw [HB.out]; rfl, rfl⟩
      · have HB : Hid (lng zs = false) := lng_ok h200 (fun z hz => by
          obtain ⟨j, hj⟩ := List.mem_iff_getElem?.1 hz
          exact HL.out j z (by have := lt_of_at hj; omega) hj)
        go_wp2
        go_ret
        exact ⟨by rw [HB.out]; rfl, rfl⟩
  · have h200' : 200 < (zs.length : Int) := by omega
    go_enter Tryz.func5, Tryz.ntmps5
    have HB : Hid (lng zs = true) := by show lng zs = true; unfold lng; simp; exact .inl (by omega)
    go_wp2
    go_ret
    exact ⟨by rw [HB.out]; rfl, rfl⟩
end Go.Proofs.YtcphhlfbjkeikabGreat
