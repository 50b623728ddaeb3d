/- hoardlaw14.known. -/
import Derived.Test.YtcphhlfbjkeikabGreatEp
namespace Go.Proofs.YtcphhlfbjkeikabGreat
open Go.RowKit

theorem state4 : stB (qs (sq 2)) 3 = [87, 58, 32, 98, 59, 65, 58, 32, 97, 59, 80, 58] := rfl
theorem kq_size (k : Nat) : (kq k).size ≤ 1000 := by
  have h : (kq k).size = 1 := by
    unfold kq
    split <;> rfl
  omega
set_option maxRecDepth 100000 in
set_option maxHeartbeats 2000000 in
theorem known_any (w : World) : Calls Tryz.prog 10 #[] w fun ee w' => ee = .returned (.bool true) ∧ Below w.heap.size w w' := by
  have hnew := new_any w (fun k => w.heap.size ≤ k) (fun _ h => h) 8
  go_enter Tryz.func10, Tryz.ntmps10
  go_wp2_with (go_at_call 6; refine Calls.mono hnew ?_; clear hnew; rintro ee w1 ⟨e, rfl, h1, hk1⟩)
  obtain ⟨W, hW⟩ : ∃ W, W = w1.alloc (.cells #[.string ⟨#[97]⟩, .string ⟨#[98]⟩] 9) := ⟨_, rfl⟩
  have hrow : W.heap[w1.heap.size]? = some (.cells #[.string ⟨#[97]⟩, .string ⟨#[98]⟩] 9 (0, 0)) := by rw [hW]; exact heap_alloc_new w1 _
  have hbW : Below w1.heap.size w1 W := by rw [hW]; exact (Below.refl _ w1).alloc (Nat.le_refl _) _
  have hsW : W.heap.size = w1.heap.size + 1 := by rw [hW, World.size_alloc]
  obtain ⟨D, hDd⟩ : ∃ D : Nat → Prop, D = fun k => (w.heap.size ≤ k ∧ k < w1.heap.size) ∨ w1.heap.size < k := ⟨_, rfl⟩
  have h2 : AE e 0 (sq 0) D W := (AE.wide (AE.below (AE.narrow h1) hbW) (fun k _ hk => by rw [hDd]; exact .inl hk))
  have HS : Hid (AE e 0 (sq 0) D W) := h2
  have HDn : Hid (∀ k, W.heap.size ≤ k → D k) := by
    show ∀ k, W.heap.size ≤ k → D k
    rw [hDd, hsW]
    exact fun k hk => .inr (by omega)
  have HDr : Hid (¬ D w1.heap.size) := by
    show ¬ D w1.heap.size
    rw [hDd]
    rintro (h | h) <;> omega
  have HDl : Hid (∀ k, D k → w.heap.size ≤ k) := by
    show ∀ k, D k → w.heap.size ≤ k
    rw [hDd]
    rintro k (h | h)
    · exact h.1
    · have := hk1.size; omega
  have HK : Hid (Keeps (fun k => w.heap.size ≤ k) w W) := by
    show Keeps (fun k => w.heap.size ≤ k) w W
    exact hk1.trans (.of_below hbW)
  have HRow : Hid _ := hrow
  rw [← hW]
  clear hW hDd h2 h1 hk1 hbW hsW hrow
  go_loopw [3] (fun i wr => ∃ k : Nat, k ≤ 2 ∧ i = .int .i64 k ∧ AE e (2 * k) (sq k) D wr ∧ Keeps D W wr) (fun i _ => 2 - (intOf i).toNat)
  case atStart => exact ⟨0, by omega, rfl, HS.out, Keeps.refl _ _⟩
  case round =>
    obtain ⟨k, hk, rfl, hA, hK⟩ := hrel
    have HA : Hid (AE e (2 * k) (sq k) D wr) := hA
    have HKr : Hid (Keeps D W wr) := hK
    have hb := (hK.block w1.heap.size (lt_of_block HRow.out) HDr.out).trans HRow.out
    clear hA hK
    rcases Nat.lt_or_ge k 2 with hlt | hge
    · have hc : wr.cell? ⟨w1.heap.size, k, none⟩ = some (.string (kq k)) := by
        rw [cell_of_block hb]
        have : k = 0 ∨ k = 1 := by omega
        rcases this with e1 | e1 <;> subst e1 <;> rfl
      obtain ⟨f, hacc⟩ := accE_any HA.out (sq_ok k hk) (fun j hj => HDn.out j (Nat.le_trans HKr.out.size hj)) (by omega) (kq k) (kq_size k)
      clear hb
      go_wp2_with (go_at_call 26; refine Calls.mono hacc ?_; clear hacc; intro ee w3 hs; obtain ⟨v, rfl, h3, hk3⟩ := hs.back; rw [sq_next f k hlt] at h3; have H3 : Hid (AE e (2 * k + 2) (sq (k + 1)) D w3) := h3; have HK3 : Hid (Keeps D W w3) := (HKr.out.trans hk3); clear h3 hk3 hs)
      go_roundw
      case rel => exact ⟨k + 1, hlt, by go_num, H3.out, HK3.out⟩
      case measure => simp [intOf]; omega
    · have hk' : k = 2 := by omega
      subst hk'
      have hst := stateE_any HA.out
      rw [state4] at hst
      clear hb
      go_wp2_with (go_at_call 16; refine Calls.mono hst ?_; clear hst; rintro ee w3 ⟨rfl, hb3⟩; have HB3 : Hid (Below w.heap.size w w3) := (((HK.out.trans (HKr.out.mono (fun k _ h => HDl.out k h))).trans (.of_below hb3)).below (Nat.le_refl _) (fun _ h => h)); clear hb3)
      go_ret
      exact ⟨rfl, HB3.out⟩
end Go.Proofs.YtcphhlfbjkeikabGreat
