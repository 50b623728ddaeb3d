/- Of an engine: leave. -/
import Derived.Test.YtcbaalodhgkgmaaEb
import Derived.ChangeKeysEq
namespace Go.Proofs.Ytcbaalodhgkgmaa
open Go.RowKit

theorem infoInt : (Try.prog.info? 3).map (fun i => (i.zero, i.size, i.bytes)) = some (some (.int .i64 0), 1, 8) := by kernel_rfl
theorem plainInt : Try.prog.plainKey 3 = true := by kernel_rfl
theorem cellsInt : Try.prog.cellsOf 3 = 1 := by kernel_rfl
/-- is a spot the zero one? -/
theorem eq_spot (a b c : Nat) (W : World) : (Op.equalIn 10000 53 (.agg #[.int .i64 (a : Nat), .int .i64 (b : Nat), .int .i64 (c : Nat)]) (.agg #[.int .i64 0, .int .i64 0, .int .i64 0])).run Try.prog W = .ok (decide (a = 0 ∧ b = 0 ∧ c = 0)) W := by
  obtain ⟨i0, hi, -⟩ := info_parts infoInt
  have h0 := fun (x y z : Value) => run_part_plain (P := Try.prog) (w := W) plainInt (xs := #[x, y, z]) (off := 0) (v := x) rfl
  have h1 := fun (x y z : Value) => run_part_plain (P := Try.prog) (w := W) plainInt (xs := #[x, y, z]) (off := 1) (v := y) rfl
  have h2 := fun (x y z : Value) => run_part_plain (P := Try.prog) (w := W) plainInt (xs := #[x, y, z]) (off := 2) (v := z) rfl
  have hq : ∀ x y : Int, (Op.equalIn 9999 3 (.int .i64 x) (.int .i64 y)).run Try.prog W = .ok (x == y) W := fun x y => run_equalIn_int (P := Try.prog) W 9998 3 .i64 .i64 x y Try.underlying3
  rw [show (10000 : Nat) = 9998 + 1 + 1 from rfl, run_equalIn_array W (9998 + 1) _ _ Try.underlying53 hi, cellsInt, show List.range 3 = [0, 1, 2] from rfl]
  by_cases ea : a = 0
  · by_cases eb : b = 0
    · by_cases ec : c = 0
      · simp [Op.eqItems, h0, h1, h2, hq, ea, eb, ec]
      · simp [Op.eqItems, h0, h1, h2, hq, ea, eb, ec]
    · simp [Op.eqItems, h0, h1, hq, ea, eb]
  · simp [Op.eqItems, h0, hq, ea]
section
variable {D : Nat → Prop} {w : World} {e c : Nat} {Q : Nat → List ByteArray} {b : Nat}
set_option maxHeartbeats 1000000 in
theorem leave_not {L : Nat → Nat} {R : Nat → Li} {x : Nat} {m : ByteArray → Option Ix.Sp} {sp : ByteArray → Nat → Nat} (H : EnIn D L w e c R x m b) (r : Rel R m sp Q b) (hb : b ≤ 900000) (k : ByteArray) (hk : k.size ≤ 1000) {i : Nat} (hi : i < 3) (hn : sp k i = 0) :
    Calls Try.prog 65 #[.pointer (some ⟨e, 0, none⟩), .string k, .int .i64 (i : Nat)] w fun ee w' => ee = .returned (.tuple #[]) ∧ Below w.heap.size w w' := by
  have hs := spot_raw H r hb k hk
  have hni : (R i).n ≤ 900000 := by have := r.few i hi; omega
  have HH : Hid (EnIn D L w e c R x m b) := H
  clear H r
  go_enter Try.func65, Try.ntmps65
  go_wp2_with (go_at_call 44; refine hs.mono ?_; clear hs; rintro ee w1 ⟨rfl, hb1⟩)
  obtain ⟨W, hW⟩ : ∃ W, W = w1.alloc (.cells #[.int .i64 ((trip sp k).1 : Nat), .int .i64 ((trip sp k).2.1 : Nat), .int .i64 ((trip sp k).2.2 : Nat)] 53) := ⟨_, rfl⟩
  have hS : Ix.SpotAt W w1.heap.size (trip sp k) := by rw [hW]; exact spotAt_new w1 _
  have hbW : Hid (Below w.heap.size w W) := by rw [hW]; exact hb1.alloc hb1.size _
  have H1 : Hid (EnIn D L W e c R x m b) := HH.out.below hbW.out
  have hat := hand_at hS hi
  rw [hn] at hat
  have hrow := H1.out.row hi
  have hq : ∀ q : Nat, LiAt (own D L W.heap.size i) (W.drewN q) (R i) := fun q => Ls.LA.below (H1.out.list hi) (below_drewN (Below.refl _ W) q)
  rw [← hW]
  clear hW hS hb1
  go_quiet (first | (go_at_call 88; exact Calls.quiet_of_same (Ls.remove_no (hq _) (by omega))))
  go_wp2_with fail
  exact bodyPost_ret (results_none rfl _ _ _) rfl ⟨rfl, below_drewN hbW.out _⟩
/-- the lists, when a key leaves list i -/
def cutR (R : Nat → Li) (i hd : Nat) (row : List Nat) : Nat → Li := fun j => if j = i then { R i with row := row, free := hd :: (R i).free, va := Ls.upd (R i).va hd ⟨#[]⟩ } else R j
theorem cut_end {L : Nat → Nat} {R : Nat → Li} {x : Nat} {m : ByteArray → Option Ix.Sp} {w2 : World} {i n hd : Nat} {l r : List Nat} {v : Ix.Sp} (hi : i < 3) (hD : ∀ k, w.heap.size ≤ k → D k) (H : EnIn D L w e c R x m b)
    (hl : Ls.LA Value.string 94 89 (own D L w.heap.size i) w2 (R i).pr (l ++ r) (hd :: (R i).free) (Ls.upd (R i).va hd ⟨#[]⟩) (R i).n) (hk : Keeps (own D L w.heap.size i) w w2) (hs : Ix.SpotAt w n v) (hn : ¬ D n) :
    EnIn D (nlab L w.heap.size i) w2 e c (cutR R i hd (l ++ r)) x m b ∧ Keeps D w w2 ∧ Ix.SpotAt w2 n v :=
  ⟨H.putL hD hi hk hl rfl, own_keeps hD hk, hs.kept hk (fun h => by rcases h with h | h; exact hn h.1; exact absurd (lt_of_block hs) (Nat.not_lt.2 h))⟩
set_option maxRecDepth 100000 in
set_option maxHeartbeats 1000000 in
theorem leave_yes {L : Nat → Nat} {R : Nat → Li} {x : Nat} {m : ByteArray → Option Ix.Sp} {sp : ByteArray → Nat → Nat} (H : EnIn D L w e c R x m b) (r : Rel R m sp Q b) (hD : ∀ k, w.heap.size ≤ k → D k) (hb : b ≤ 900000) (k : ByteArray) (hk : k.size ≤ 1000) {i : Nat} (hi : i < 3) (hn : sp k i ≠ 0) :
    Calls Try.prog 65 #[.pointer (some ⟨e, 0, none⟩), .string k, .int .i64 (i : Nat)] w fun ee w' => ee = .returned (.tuple #[]) ∧ EN D w' e c (cutAt Q k i) b ∧ Keeps D w w' := by
  have hs := spot_raw H r hb k hk
  obtain ⟨l, rr, hr⟩ := split_mem (r.at_ k i hi hn).1
  have hni : (R i).n ≤ 1000000 := by have := r.few i hi; omega
  obtain ⟨hd, hhd⟩ : ∃ hd, hd = sp k i := ⟨_, rfl⟩
  have HH : Hid (EnIn D L w e c R x m b) := H
  have HT : Hid (Rel (cutR R i hd (l ++ rr)) (Ix.put m k (spOf (spu sp k i 0) k)) (spu sp k i 0) (cutAt Q k i) b) := by rw [hhd]; exact r.leave hi hn hr
  have HM : Hid (m k ≠ none) := by
    show m k ≠ none
    rw [r.spot k]
    unfold spOf
    rw [if_neg]
    · simp
    · rintro ⟨e0, e1, e2⟩
      have : i = 0 ∨ i = 1 ∨ i = 2 := by omega
      rcases this with ei | ei | ei <;> subst ei <;> exact hn (by assumption)
  have HD : Hid (∀ k, w.heap.size ≤ k → D k) := hD
  rw [← hhd] at hr hn
  have HL : Hid ((R i).row = l ++ hd :: rr) := hr
  have HHd : Hid (hd = sp k i) := hhd
  clear H r hD hr hhd
  go_enter Try.func65, Try.ntmps65
  go_wp2_with (go_at_call 44; refine hs.mono ?_; clear hs; rintro ee w1 ⟨rfl, hb1⟩)
  obtain ⟨W, hW⟩ : ∃ W, W = w1.alloc (.cells #[.int .i64 ((trip sp k).1 : Nat), .int .i64 ((trip sp k).2.1 : Nat), .int .i64 ((trip sp k).2.2 : Nat)] 53) := ⟨_, rfl⟩
  have hS : Ix.SpotAt W w1.heap.size (trip sp k) := by rw [hW]; exact spotAt_new w1 _
  have HS : Hid (Ix.SpotAt W w1.heap.size (trip sp k)) := hS
  obtain ⟨D1, hDD⟩ : ∃ D1 : Nat → Prop, D1 = fun k => D k ∧ k ≠ w1.heap.size := ⟨_, rfl⟩
  have H1 : Hid (EnIn D1 L W e c R x m b) := by rw [hW, hDD]; exact HH.out.boxed hb1 _
  have hsz : W.heap.size = w1.heap.size + 1 := by rw [hW, World.size_alloc]
  have hbW : Hid (Below w.heap.size w W) := by rw [hW]; exact hb1.alloc hb1.size _
  have hD1 : Hid (∀ k, W.heap.size ≤ k → D1 k) := by show ∀ k, W.heap.size ≤ k → D1 k; rw [hDD]; exact fun k h => ⟨HD.out k (Nat.le_trans hbW.out.size h), by omega⟩
  have hDD4 : ∀ k, w1.heap.size < k → D1 k := by rw [hDD]; exact fun k h => ⟨HD.out k (by have := hb1.size; omega), by omega⟩
  have hDn : Hid (¬ D1 w1.heap.size) := by show ¬ D1 w1.heap.size; rw [hDD]; exact fun h => h.2 rfl
  have hDi : Hid (∀ k, D1 k → D k) := by show ∀ k, D1 k → D k; rw [hDD]; exact fun k h => h.1
  have hDm : Hid (D w1.heap.size) := HD.out _ hb1.size
  have hat := hand_at hS hi
  rw [← HHd.out] at hat
  have hrow := H1.out.row hi
  obtain ⟨n, hnn⟩ : ∃ n, n = w1.heap.size := ⟨_, rfl⟩
  have HLi : Hid (Ls.LA Value.string 94 89 (own D1 L W.heap.size i) W (R i).pr (l ++ hd :: rr) (R i).free (R i).va (R i).n) := by
    have := H1.out.list hi
    rw [LiAt, HL.out] at this
    exact this
  rw [← hW]
  rw [← hnn] at hat HS hDn hDm hDD4 ⊢
  clear hW hS hsz hb1 hnn hDD
  go_cut [8] from 12 (fun was wx => was = .bool true ∧ Ix.SpotAt wx n (trip sp k) ∧ (∃ L, EnIn D1 L wx e c (cutR R i hd (l ++ rr)) x m b) ∧ Keeps D w wx)
  case first =>
    go_region_with (go_at_call 88; refine (Ls.remove_in (w := W.drew) hd HLi.out hni).mono ?_; rintro ee w3 ⟨rfl, hl3, hk3⟩; have h3 := cut_end hi hD1.out H1.out hl3 ((Keeps.refl _ W).drew.trans hk3) HS.out hDn.out; have H3 : Hid (EnIn D1 _ w3 e c (cutR R i hd (l ++ rr)) x m b) := h3.1; have HK3 : Hid (Keeps D w w3) := (Keeps.of_below hbW.out).trans (h3.2.1.mono (fun k _ h => hDi.out k h)); have HS3 : Hid (Ix.SpotAt w3 n (trip sp k)) := h3.2.2; clear hl3 hk3 h3)
    all_goals (go_wp2_with fail; go_meet; case rel => exact ⟨rfl, HS3.out, ⟨_, H3.out⟩, HK3.out⟩)
  case rest =>
    obtain ⟨rfl, hS4, ⟨L4, h4⟩, hK4⟩ := hcut
    have H4 : Hid (EnIn D1 L4 wc e c (cutR R i hd (l ++ rr)) x m b) := h4
    have HK4 : Hid (Keeps D w wc) := hK4
    have HD4 : Hid (∀ k, wc.heap.size ≤ k → D1 k) := fun k h => hDD4 k (Nat.lt_of_lt_of_le (lt_of_block hS4) h)
    obtain ⟨_, _, c64, _, heo4⟩ := h4.cells
    obtain ⟨z0, z1, z2, zl⟩ := hS4.cells
    have hz := hand_at hS4 hi
    have hfz := hand_fz hS4 i
    have y0 := hand_fz hS4 0
    have y1 := hand_fz hS4 1
    have y2 := hand_fz hS4 2
    have HS4 : Hid (Ix.SpotAt wc n (trip sp k)) := hS4
    clear h4 hK4 hrow hat hS4
    have h3 : i = 0 ∨ i = 1 ∨ i = 2 := by omega
    obtain ⟨a0, ha0⟩ : ∃ a, a = (trip sp k).1 := ⟨_, rfl⟩
    obtain ⟨a1, ha1⟩ : ∃ a, a = (trip sp k).2.1 := ⟨_, rfl⟩
    obtain ⟨a2, ha2⟩ : ∃ a, a = (trip sp k).2.2 := ⟨_, rfl⟩
    have HA : Hid (a0 = sp k 0 ∧ a1 = sp k 1 ∧ a2 = sp k 2) := ⟨ha0, ha1, ha2⟩
    rw [← ha0] at z0
    rw [← ha1] at z1
    rw [← ha2] at z2
    clear hz ha0 ha1 ha2
    rcases h3 with ei | ei | ei
    · subst ei
      have hE : ∀ W : World, (Op.equalIn 10000 53 (.agg #[.int .i64 0, .int .i64 (a1 : Nat), .int .i64 (a2 : Nat)]) (.agg #[.int .i64 0, .int .i64 0, .int .i64 0])).run Try.prog W = .ok (decide (a1 = 0 ∧ a2 = 0)) W := fun W => by
        have := eq_spot 0 a1 a2 W
        simpa using this
      have HT' : Hid (trip (spu sp k 0 0) k = (0, a1, a2)) := by
        show trip (spu sp k 0 0) k = (0, a1, a2)
        simp [trip, spu, HA.out.2.1, HA.out.2.2]
      by_cases hz : a1 = 0 ∧ a2 = 0
      · rw [decide_eq_true hz] at hE
        have HZ : Hid (spOf (spu sp k 0 0) k = none) := by
          show spOf (spu sp k 0 0) k = none
          unfold spOf
          rw [if_pos]
          simp [spu, ← HA.out.2.1, ← HA.out.2.2, hz.1, hz.2]
        clear hz
        have hS5 : Hid (EnIn D1 L4 (wc.setCell ⟨n, 0, none⟩ (.int .i64 0)) e c (cutR R 0 hd (l ++ rr)) x m b) := store_end H4.out hDn.out
        have HK5 : Hid (Keeps D w (wc.setCell ⟨n, 0, none⟩ (.int .i64 0))) := HK4.out.setCell (p := ⟨n, 0, none⟩) hDm.out _
        have HD5 : Hid (∀ k, (wc.setCell ⟨n, 0, none⟩ (.int .i64 0)).heap.size ≤ k → D1 k) := fun k h => HD4.out k (by simpa [World.setCell] using h)
        have hdel := Ix.delete_any hS5.out.index (by omega) k (by unfold maxLen; omega)
        go_wp2_with (go_at_call 89; refine hdel.mono ?_; clear hdel; rintro ee w5 ⟨rfl, hx5, hk5⟩)
        go_end0
        have h6 := hS5.out.putX HD5.out hk5 hx5
        have hT : Rel (cutR R 0 hd (l ++ rr)) (Ix.put m k none) (spu sp k 0 0) (cutAt Q k 0) b := by have := HT.out; rw [HZ.out] at this; exact this
        exact ⟨rfl, ⟨_, _, _, _, spu sp k 0 0, h6.wide (fun k _ h => hDi.out k h), hT⟩, HK5.out.trans ((own_keeps HD5.out hk5).mono (fun k _ h => hDi.out k h))⟩
      · rw [decide_eq_false hz] at hE
        have HZ : Hid (spOf (spu sp k 0 0) k = some (0, a1, a2)) := by
          show spOf (spu sp k 0 0) k = some (0, a1, a2)
          unfold spOf
          rw [HT'.out, if_neg]
          simp only [spu, ← HA.out.2.1, ← HA.out.2.2]
          intro h
          exact hz (by simpa using h)
        clear hz
        have hS5 : Hid (EnIn D1 L4 (wc.setCell ⟨n, 0, none⟩ (.int .i64 0)) e c (cutR R 0 hd (l ++ rr)) x m b) := store_end H4.out hDn.out
        have HK5 : Hid (Keeps D w (wc.setCell ⟨n, 0, none⟩ (.int .i64 0))) := HK4.out.setCell (p := ⟨n, 0, none⟩) hDm.out _
        have HD5 : Hid (∀ k, (wc.setCell ⟨n, 0, none⟩ (.int .i64 0)).heap.size ≤ k → D1 k) := fun k h => HD4.out k (by simpa [World.setCell] using h)
        have hput := Ix.put_fit (w := (wc.setCell ⟨n, 0, none⟩ (.int .i64 0)).drew) hS5.out.drewI.index (own_new _ _ _ _) k hk (0, a1, a2) (by omega) (fun h => absurd h HM.out)
        go_wp2_with fail
        go_region_with (go_at_call 90; refine hput.mono ?_; rintro ee w5 ⟨rfl, hx5, hk5⟩)
        all_goals
          go_end0
          have hk6 := (Keeps.refl _ (wc.setCell ⟨n, 0, none⟩ (.int .i64 0))).drew.trans hk5
          have h6 := hS5.out.putX HD5.out hk6 hx5
          have hT : Rel (cutR R 0 hd (l ++ rr)) (Ix.put m k (some (0, a1, a2))) (spu sp k 0 0) (cutAt Q k 0) b := by have := HT.out; rw [HZ.out] at this; exact this
          exact ⟨rfl, ⟨_, _, _, _, spu sp k 0 0, h6.wide (fun k _ h => hDi.out k h), hT⟩, HK5.out.trans ((own_keeps HD5.out hk6).mono (fun k _ h => hDi.out k h))⟩
    · subst ei
      have hE : ∀ W : World, (Op.equalIn 10000 53 (.agg #[.int .i64 (a0 : Nat), .int .i64 0, .int .i64 (a2 : Nat)]) (.agg #[.int .i64 0, .int .i64 0, .int .i64 0])).run Try.prog W = .ok (decide (a0 = 0 ∧ a2 = 0)) W := fun W => by
        have := eq_spot a0 0 a2 W
        simpa using this
      have HT' : Hid (trip (spu sp k 1 0) k = (a0, 0, a2)) := by
        show trip (spu sp k 1 0) k = (a0, 0, a2)
        simp [trip, spu, HA.out.1, HA.out.2.2]
      by_cases hz : a0 = 0 ∧ a2 = 0
      · rw [decide_eq_true hz] at hE
        have HZ : Hid (spOf (spu sp k 1 0) k = none) := by
          show spOf (spu sp k 1 0) k = none
          unfold spOf
          rw [if_pos]
          simp [spu, ← HA.out.1, ← HA.out.2.2, hz.1, hz.2]
        clear hz
        have hS5 : Hid (EnIn D1 L4 (wc.setCell ⟨n, 1, none⟩ (.int .i64 0)) e c (cutR R 1 hd (l ++ rr)) x m b) := store_end H4.out hDn.out
        have HK5 : Hid (Keeps D w (wc.setCell ⟨n, 1, none⟩ (.int .i64 0))) := HK4.out.setCell (p := ⟨n, 1, none⟩) hDm.out _
        have HD5 : Hid (∀ k, (wc.setCell ⟨n, 1, none⟩ (.int .i64 0)).heap.size ≤ k → D1 k) := fun k h => HD4.out k (by simpa [World.setCell] using h)
        have hdel := Ix.delete_any hS5.out.index (by omega) k (by unfold maxLen; omega)
        go_wp2_with (go_at_call 89; refine hdel.mono ?_; clear hdel; rintro ee w5 ⟨rfl, hx5, hk5⟩)
        go_end0
        have h6 := hS5.out.putX HD5.out hk5 hx5
        have hT : Rel (cutR R 1 hd (l ++ rr)) (Ix.put m k none) (spu sp k 1 0) (cutAt Q k 1) b := by have := HT.out; rw [HZ.out] at this; exact this
        exact ⟨rfl, ⟨_, _, _, _, spu sp k 1 0, h6.wide (fun k _ h => hDi.out k h), hT⟩, HK5.out.trans ((own_keeps HD5.out hk5).mono (fun k _ h => hDi.out k h))⟩
      · rw [decide_eq_false hz] at hE
        have HZ : Hid (spOf (spu sp k 1 0) k = some (a0, 0, a2)) := by
          show spOf (spu sp k 1 0) k = some (a0, 0, a2)
          unfold spOf
          rw [HT'.out, if_neg]
          simp only [spu, ← HA.out.1, ← HA.out.2.2]
          intro h
          exact hz (by simpa using h)
        clear hz
        have hS5 : Hid (EnIn D1 L4 (wc.setCell ⟨n, 1, none⟩ (.int .i64 0)) e c (cutR R 1 hd (l ++ rr)) x m b) := store_end H4.out hDn.out
        have HK5 : Hid (Keeps D w (wc.setCell ⟨n, 1, none⟩ (.int .i64 0))) := HK4.out.setCell (p := ⟨n, 1, none⟩) hDm.out _
        have HD5 : Hid (∀ k, (wc.setCell ⟨n, 1, none⟩ (.int .i64 0)).heap.size ≤ k → D1 k) := fun k h => HD4.out k (by simpa [World.setCell] using h)
        have hput := Ix.put_fit (w := (wc.setCell ⟨n, 1, none⟩ (.int .i64 0)).drew) hS5.out.drewI.index (own_new _ _ _ _) k hk (a0, 0, a2) (by omega) (fun h => absurd h HM.out)
        go_wp2_with fail
        go_region_with (go_at_call 90; refine hput.mono ?_; rintro ee w5 ⟨rfl, hx5, hk5⟩)
        all_goals
          go_end0
          have hk6 := (Keeps.refl _ (wc.setCell ⟨n, 1, none⟩ (.int .i64 0))).drew.trans hk5
          have h6 := hS5.out.putX HD5.out hk6 hx5
          have hT : Rel (cutR R 1 hd (l ++ rr)) (Ix.put m k (some (a0, 0, a2))) (spu sp k 1 0) (cutAt Q k 1) b := by have := HT.out; rw [HZ.out] at this; exact this
          exact ⟨rfl, ⟨_, _, _, _, spu sp k 1 0, h6.wide (fun k _ h => hDi.out k h), hT⟩, HK5.out.trans ((own_keeps HD5.out hk6).mono (fun k _ h => hDi.out k h))⟩
    · subst ei
      have hE : ∀ W : World, (Op.equalIn 10000 53 (.agg #[.int .i64 (a0 : Nat), .int .i64 (a1 : Nat), .int .i64 0]) (.agg #[.int .i64 0, .int .i64 0, .int .i64 0])).run Try.prog W = .ok (decide (a0 = 0 ∧ a1 = 0)) W := fun W => by
        have := eq_spot a0 a1 0 W
        simpa using this
      have HT' : Hid (trip (spu sp k 2 0) k = (a0, a1, 0)) := by
        show trip (spu sp k 2 0) k = (a0, a1, 0)
        simp [trip, spu, HA.out.1, HA.out.2.1]
      by_cases hz : a0 = 0 ∧ a1 = 0
      · rw [decide_eq_true hz] at hE
        have HZ : Hid (spOf (spu sp k 2 0) k = none) := by
          show spOf (spu sp k 2 0) k = none
          unfold spOf
          rw [if_pos]
          simp [spu, ← HA.out.1, ← HA.out.2.1, hz.1, hz.2]
        clear hz
        have hS5 : Hid (EnIn D1 L4 (wc.setCell ⟨n, 2, none⟩ (.int .i64 0)) e c (cutR R 2 hd (l ++ rr)) x m b) := store_end H4.out hDn.out
        have HK5 : Hid (Keeps D w (wc.setCell ⟨n, 2, none⟩ (.int .i64 0))) := HK4.out.setCell (p := ⟨n, 2, none⟩) hDm.out _
        have HD5 : Hid (∀ k, (wc.setCell ⟨n, 2, none⟩ (.int .i64 0)).heap.size ≤ k → D1 k) := fun k h => HD4.out k (by simpa [World.setCell] using h)
        have hdel := Ix.delete_any hS5.out.index (by omega) k (by unfold maxLen; omega)
        go_wp2_with (go_at_call 89; refine hdel.mono ?_; clear hdel; rintro ee w5 ⟨rfl, hx5, hk5⟩)
        go_end0
        have h6 := hS5.out.putX HD5.out hk5 hx5
        have hT : Rel (cutR R 2 hd (l ++ rr)) (Ix.put m k none) (spu sp k 2 0) (cutAt Q k 2) b := by have := HT.out; rw [HZ.out] at this; exact this
        exact ⟨rfl, ⟨_, _, _, _, spu sp k 2 0, h6.wide (fun k _ h => hDi.out k h), hT⟩, HK5.out.trans ((own_keeps HD5.out hk5).mono (fun k _ h => hDi.out k h))⟩
      · rw [decide_eq_false hz] at hE
        have HZ : Hid (spOf (spu sp k 2 0) k = some (a0, a1, 0)) := by
          show spOf (spu sp k 2 0) k = some (a0, a1, 0)
          unfold spOf
          rw [HT'.out, if_neg]
          simp only [spu, ← HA.out.1, ← HA.out.2.1]
          intro h
          exact hz (by simpa using h)
        clear hz
        have hS5 : Hid (EnIn D1 L4 (wc.setCell ⟨n, 2, none⟩ (.int .i64 0)) e c (cutR R 2 hd (l ++ rr)) x m b) := store_end H4.out hDn.out
        have HK5 : Hid (Keeps D w (wc.setCell ⟨n, 2, none⟩ (.int .i64 0))) := HK4.out.setCell (p := ⟨n, 2, none⟩) hDm.out _
        have HD5 : Hid (∀ k, (wc.setCell ⟨n, 2, none⟩ (.int .i64 0)).heap.size ≤ k → D1 k) := fun k h => HD4.out k (by simpa [World.setCell] using h)
        have hput := Ix.put_fit (w := (wc.setCell ⟨n, 2, none⟩ (.int .i64 0)).drew) hS5.out.drewI.index (own_new _ _ _ _) k hk (a0, a1, 0) (by omega) (fun h => absurd h HM.out)
        go_wp2_with fail
        go_region_with (go_at_call 90; refine hput.mono ?_; rintro ee w5 ⟨rfl, hx5, hk5⟩)
        all_goals
          go_end0
          have hk6 := (Keeps.refl _ (wc.setCell ⟨n, 2, none⟩ (.int .i64 0))).drew.trans hk5
          have h6 := hS5.out.putX HD5.out hk6 hx5
          have hT : Rel (cutR R 2 hd (l ++ rr)) (Ix.put m k (some (a0, a1, 0))) (spu sp k 2 0) (cutAt Q k 2) b := by have := HT.out; rw [HZ.out] at this; exact this
          exact ⟨rfl, ⟨_, _, _, _, spu sp k 2 0, h6.wide (fun k _ h => hDi.out k h), hT⟩, HK5.out.trans ((own_keeps HD5.out hk6).mono (fun k _ h => hDi.out k h))⟩
theorem leave_any (H : EN D w e c Q b) (hD : ∀ k, w.heap.size ≤ k → D k) (hb : b ≤ 900000) (k : ByteArray) (hk : k.size ≤ 1000) (i : Nat) (hi : i < 3) :
    Calls Try.prog 65 #[.pointer (some ⟨e, 0, none⟩), .string k, .int .i64 (i : Nat)] w fun ee w' => ee = .returned (.tuple #[]) ∧ EN D w' e c (cutAt Q k i) b ∧ Keeps D w w' := by
  have H0 := H
  obtain ⟨L, R, x, m, sp, h, r⟩ := H
  by_cases hn : sp k i = 0
  · refine (leave_not h r hb k hk hi hn).mono ?_
    rintro ee w' ⟨rfl, hb1⟩
    refine ⟨rfl, (H0.below hb1).congr (fun j hj => ?_), .of_below hb1⟩
    unfold cutAt
    by_cases e : j = i
    · subst e
      rw [if_pos rfl, A.cut_same ((r.zero hi).1 hn)]
    · rw [if_neg e]
  · exact leave_yes h r hD hb k hk hi hn
end
end Go.Proofs.Ytcbaalodhgkgmaa
