/- Of a ghost: Keys. -/
import Derived.Test.YtdiggfiapbifpaaGa
namespace Go.Proofs.Ytdiggfiapbifpaa
open Go.RowKit

section
variable {D : Nat → Prop} {w : World} {e c b : Nat} {Q : List ByteArray}
/-- a row of texts that the call made -/
def Own (n : Nat) (w : World) (ad : Option Addr) (cap : Nat) (zs : List ByteArray) : Prop := w.ownsRow n 9 1 (.slice ad zs.length cap) zs.length (txs zs)
theorem Own.at {n : Nat} {ad : Option Addr} {cap : Nat} {zs : List ByteArray} (h : Own n w ad cap zs) {j : Nat} {z : ByteArray} (hz : zs[j]? = some z) : ∃ g, ad = some ⟨g, 0, none⟩ ∧ n ≤ g ∧ w.cell? ⟨g, j, none⟩ = some (.string z) ∧ w.frozen? ⟨g, j, none⟩ = false ∧ g < w.heap.size := by
  obtain ⟨g, cur, rfl, hb, hg, hc⟩ := Ls.ownsRow_block h (by have := lt_of_at hz; omega)
  exact ⟨g, rfl, hb, hc j _ (txs_at hz), frozen_of_block hg, lt_of_block hg⟩
theorem Own.set {n g : Nat} {cap : Nat} {zs : List ByteArray} (h : Own n w (some ⟨g, 0, none⟩) cap zs) {j : Nat} {z : ByteArray} (hz : zs[j]? = some z) : Own n (w.setCell ⟨g, j, none⟩ (.string z)) (some ⟨g, 0, none⟩) cap zs := by
  have h2 := Ls.ownsRow_setCell (k := j) (u := .string z) h
  have e : (txs zs).set j (.string z) = txs zs := by
    apply List.ext_getElem?
    intro i
    rw [List.getElem?_set]
    by_cases hi : j = i
    · subst hi
      rw [if_pos rfl, if_pos (by rw [txs_len]; exact lt_of_at hz), txs_at hz]
    · rw [if_neg hi]
  rw [e] at h2
  exact h2
theorem Own.below {n : Nat} {w' : World} {ad : Option Addr} {cap : Nat} {zs : List ByteArray} (h : Own n w ad cap zs) (hb : Below w.heap.size w w') : Own n w' ad cap zs :=
  World.ownsRow.kept h (row := none) ⟨hb.os, hb.tape, hb.output, hb.size, fun k hk _ => hb.block k hk⟩ (by
    cases e : (Value.slice ad zs.length cap).ownBlock with
    | none => exact .inl rfl
    | some k => exact .inr (fun h => by cases h))
set_option maxHeartbeats 1000000 in
theorem keys_any (H : GH e c b Q D w) (hok : G.Ok c Q) (hb : b ≤ 800000) :
    Calls Try.prog 18 #[.pointer (some ⟨e, 0, none⟩)] w fun ee w' => ∃ ad cap, ee = .returned (.slice ad Q.length cap) ∧ Own w.heap.size w' ad cap Q ∧ Below w.heap.size w w' := by
  have HS : Hid (∀ z ∈ Q, z.size ≤ 1000) := fun z hz => H.size hz
  have hQ : Q.length ≤ 1024 := by have := hok.2.1; have := hok.2.2; omega
  obtain ⟨L, R, x, m, H, r⟩ := H
  obtain ⟨c0, c1, c2, heo⟩ := H.cells
  have hall := Ls.all_any H.li (by have := r.few; omega)
  rw [r.len] at hall
  have hke : (R.row.map fun h => Value.string (R.va h)) = txs Q := by rw [← r.keys]; simp [txs]
  rw [hke] at hall
  clear H r hke hok
  go_enter Try.func18, Try.ntmps18
  go_wp2_with (go_at_call 31; refine Calls.mono hall ?_; clear hall; rintro ee w1 ⟨ad, cap, rfl, hown, hb1⟩; have HO : Hid (Own w.heap.size w1 ad cap Q) := hown; have HB : Hid (Below w.heap.size w w1) := hb1; clear hown hb1)
  go_loopw [15] (fun i wr => ∃ k : Nat, k ≤ Q.length ∧ i = .int .i64 k ∧ Own w.heap.size wr ad cap Q ∧ Below w.heap.size w wr) (fun i _ => Q.length - (intOf i).toNat)
  case atStart => exact ⟨0, Nat.zero_le _, rfl, HO.out, HB.out⟩
  case round =>
    obtain ⟨k, hk, rfl, hown, hbe⟩ := hrel
    have HO1 : Hid (Own w.heap.size wr ad cap Q) := hown
    have HB1 : Hid (Below w.heap.size w wr) := hbe
    clear hown hbe HO HB
    rcases Nat.lt_or_ge k Q.length with hlt | hge
    · obtain ⟨z, hz⟩ : ∃ z, Q[k]? = some z := ⟨_, List.getElem?_eq_getElem hlt⟩
      have hzs := HS.out z (List.mem_of_getElem? hz)
      have HZ : Hid (Q[k]? = some z) := hz
      obtain ⟨g, rfl, hgl, ck, fk, hgs⟩ := HO1.out.at hz
      clear hz
      go_wp2_with (go_at_call 26; refine (Ix.clone_any z hzs _).mono ?_; rintro ee w2 ⟨rfl, hb2⟩; have HO2 : Hid (Own w.heap.size w2 (some ⟨g, 0, none⟩) cap Q) := HO1.out.below hb2; have HB2 : Hid (Below w.heap.size w w2) := below_trans' HB1.out hb2; obtain ⟨g2, eg, -, ck2, fk2, hgs2⟩ := HO2.out.at HZ.out; cases eg; clear hb2)
      go_roundw
      case rel => exact ⟨k + 1, hlt, by go_num, HO2.out.set HZ.out, ((Keeps.of_below (D := fun j => w.heap.size ≤ j) HB2.out).setCell (p := ⟨g, k, none⟩) hgl _).below (Nat.le_refl _) (fun _ h => h)⟩
      case measure => simp [intOf]; omega
    · have hk' : k = Q.length := by omega
      subst hk'
      go_wp2_with fail
      go_ret
      exact ⟨_, _, rfl, HO1.out, HB1.out⟩
end
end Go.Proofs.Ytdiggfiapbifpaa
