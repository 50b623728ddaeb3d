/- Of an engine: lay. -/
import Derived.Test.YtcbaalodhgkgmaaEa
import Derived.BigQuiet
import Derived.Deep.Cut
import Derived.Deep.CutRange
namespace Go.Proofs.Ytcbaalodhgkgmaa
open Go.RowKit

/-- list i of three, when a key becomes its last; when it leaves it -/
def layAt (Q : Nat → List ByteArray) (k : ByteArray) (i : Nat) : Nat → List ByteArray := fun j => if j = i then A.cut (Q j) k ++ [k] else Q j
def cutAt (Q : Nat → List ByteArray) (k : ByteArray) (i : Nat) : Nat → List ByteArray := fun j => if j = i then A.cut (Q j) k else Q j
section
variable {D : Nat → Prop} {w : World} {e c : Nat} {Q : Nat → List ByteArray} {b : Nat}
theorem hand_at {W : World} {n : Nat} {sp : ByteArray → Nat → Nat} {k : ByteArray} (h : Ix.SpotAt W n (trip sp k)) {i : Nat} (hi : i < 3) : W.cell? ⟨n, i, none⟩ = some (.int .i64 (sp k i : Nat)) := by
  obtain ⟨h0, h1, h2, -⟩ := h.cells
  have : i = 0 ∨ i = 1 ∨ i = 2 := by omega
  rcases this with e | e | e <;> subst e <;> assumption
theorem hand_fz {W : World} {n : Nat} {v : Ix.Sp} (h : Ix.SpotAt W n v) (i : Nat) : W.frozen? ⟨n, i, none⟩ = false := frozen_of_block h
theorem hand_set {W : World} {n : Nat} {sp : ByteArray → Nat → Nat} {k : ByteArray} (h : Ix.SpotAt W n (trip sp k)) {i : Nat} (hi : i < 3) (x : Nat) : Ix.SpotAt (W.setCell ⟨n, i, none⟩ (.int .i64 (x : Nat))) n (trip (spu sp k i x) k) := by
  unfold Ix.SpotAt at *
  rw [block_setCell h]
  have : i = 0 ∨ i = 1 ∨ i = 2 := by omega
  rcases this with e | e | e <;> subst e <;> simp [trip, spu]
/-- an engine, beside a new block that is none of its own -/
theorem EnIn.boxed {L : Nat → Nat} {R : Nat → Li} {x : Nat} {m : ByteArray → Option Ix.Sp} {w1 : World} (H : EnIn D L w e c R x m b) (hb : Below w.heap.size w w1) (o : Obj) : EnIn (fun k => D k ∧ k ≠ w1.heap.size) L (w1.alloc o) e c R x m b :=
  (((H.below hb).wide (D' := fun k => D k ∧ k < w1.heap.size) (fun _ a h => ⟨h, a⟩)).alloc' o).wide (fun k _ h => ⟨h.1, by omega⟩)
set_option maxHeartbeats 1000000 in
theorem lay_old {L : Nat → Nat} {R : Nat → Li} {x : Nat} {m : ByteArray → Option Ix.Sp} {sp : ByteArray → Nat → Nat} (H : EnIn D L w e c R x m b) (r : Rel R m sp Q b) (hD : ∀ k, w.heap.size ≤ k → D k) (hb : b ≤ 900000) (k : ByteArray) (hk : k.size ≤ 1000) {i : Nat} (hi : i < 3) (hn : sp k i ≠ 0) :
    Calls Try.prog 84 #[.pointer (some ⟨e, 0, none⟩), .string k, .int .i64 (i : Nat)] w fun ee w' => ee = .returned (.tuple #[]) ∧ EN D w' e c (layAt Q k i) b ∧ Keeps D w w' := by
  have hs := spot_raw H r hb k hk
  obtain ⟨l, rr, hr⟩ := split_mem (r.at_ k i hi hn).1
  have hni : (R i).n ≤ 1000000 := by have := r.few i hi; omega
  have HH : Hid (EnIn D L w e c R x m b) := H
  have HT : Hid (Rel _ m sp (layAt Q k i) b) := r.touch hi hn hr
  have HD : Hid (∀ k, w.heap.size ≤ k → D k) := hD
  have HL : Hid ((R i).row = l ++ sp k i :: rr) := hr
  clear H r hD hr
  go_enter Try.func84, Try.ntmps84
  go_wp2_with (go_at_call 44; refine hs.mono ?_; clear hs; rintro ee w1 ⟨rfl, hb1⟩)
  obtain ⟨W, hW⟩ : ∃ W, W = w1.alloc (.cells #[.int .i64 ((trip sp k).1 : Nat), .int .i64 ((trip sp k).2.1 : Nat), .int .i64 ((trip sp k).2.2 : Nat)] 53) := ⟨_, rfl⟩
  have hS : Ix.SpotAt W w1.heap.size (trip sp k) := by rw [hW]; exact spotAt_new w1 _
  have H1 : Hid (EnIn (fun k => D k ∧ k ≠ w1.heap.size) L W e c R x m b) := by rw [hW]; exact HH.out.boxed hb1 _
  have hsz : W.heap.size = w1.heap.size + 1 := by rw [hW, World.size_alloc]
  have hbW : Hid (Below w.heap.size w W) := by rw [hW]; exact hb1.alloc hb1.size _
  have hD1 : Hid (∀ k, W.heap.size ≤ k → D k ∧ k ≠ w1.heap.size) := fun k h => ⟨HD.out k (Nat.le_trans hbW.out.size h), by omega⟩
  have hat := hand_at hS hi
  have hrow := H1.out.row hi
  have HLi : Hid (Ls.LA Value.string 94 89 (own (fun k => D k ∧ k ≠ w1.heap.size) L W.heap.size i) W (R i).pr (l ++ sp k i :: rr) (R i).free (R i).va (R i).n) := by
    have := H1.out.list hi
    rw [LiAt, HL.out] at this
    exact this
  rw [← hW]
  clear hW hS hsz hb1
  go_region_with (go_at_call 94; refine (Ls.toBack_in (w := W.drew) (sp k i) HLi.out hni).mono ?_; rintro ee w2 ⟨rfl, hl2, hk2⟩)
  all_goals
    go_wp2_with fail
    have hk3 := (Keeps.refl _ W).drew.trans hk2
    have h3 := H1.out.putL (l := { R i with row := l ++ rr ++ [sp k i] }) hD1.out hi hk3 hl2 rfl
    exact bodyPost_ret (results_none rfl _ _ _) rfl ⟨rfl, ⟨_, _, _, _, _, h3.wide (fun _ _ h => h.1), HT.out⟩, (Keeps.of_below hbW.out).trans ((own_keeps hD1.out hk3).mono (fun _ _ h => h.1))⟩
/-- the lists, when a key is laid anew at the end of list i -/
def pushR (R : Nat → Li) (i hd : Nat) (k : ByteArray) : Nat → Li := fun j => if j = i then { R i with row := (R i).row ++ [hd], free := (R i).free.tail, va := Ls.upd (R i).va hd k, n := Ls.moreOf (R i).free (R i).n } else R j
theorem more_few {L : Nat → Nat} {R : Nat → Li} {x : Nat} {m : ByteArray → Option Ix.Sp} {sp : ByteArray → Nat → Nat} (H : EnIn D L w e c R x m b) (r : Rel R m sp Q b) {i : Nat} (hi : i < 3) (hfit : (Q i).length + 1 ≤ b) : Ls.moreOf (R i).free (R i).n ≤ b := by
  have h1 := Ls.LA.lens (H.li i hi)
  have h2 := r.few i hi
  have h3 : (R i).row.length = (Q i).length := by rw [← r.keys i hi, List.length_map]
  unfold Ls.moreOf
  split
  · rename_i hf
    rw [hf] at h1
    simp at h1
    omega
  · exact h2
theorem push_end {L : Nat → Nat} {R : Nat → Li} {x : Nat} {m : ByteArray → Option Ix.Sp} {w2 : World} {k : ByteArray} {i n : Nat} {v : Ix.Sp} (hi : i < 3) (hD : ∀ k, w.heap.size ≤ k → D k) (H : EnIn D L w e c R x m b)
    (hl : Ls.LA Value.string 94 89 (own D L w.heap.size i) w2 (R i).pr ((R i).row ++ [Ls.handOf (R i).free (R i).n]) (R i).free.tail (Ls.upd (R i).va (Ls.handOf (R i).free (R i).n) k) (Ls.moreOf (R i).free (R i).n)) (hk : Keeps (own D L w.heap.size i) w w2) (hs : Ix.SpotAt w n v) (hn : ¬ D n) :
    EnIn D (nlab L w.heap.size i) w2 e c (pushR R i (Ls.handOf (R i).free (R i).n) k) x m b ∧ Keeps D w w2 ∧ Ix.SpotAt w2 n v :=
  ⟨H.putL hD hi hk hl rfl, own_keeps hD hk, hs.kept hk (fun h => by rcases h with h | h; exact hn h.1; exact absurd (lt_of_block hs) (Nat.not_lt.2 h))⟩
theorem store_end {L : Nat → Nat} {R : Nat → Li} {x : Nat} {m : ByteArray → Option Ix.Sp} {n i : Nat} {u : Value} (H : EnIn D L w e c R x m b) (hn : ¬ D n) : EnIn D L (w.setCell ⟨n, i, none⟩ u) e c R x m b :=
  H.kept (D' := fun k => k = n) (Keeps.setCell (D := fun k => k = n) (Keeps.refl _ w) (p := ⟨n, i, none⟩) rfl u) (fun _ _ h e => hn (e ▸ h))
set_option maxHeartbeats 1000000 in
theorem lay_new {L : Nat → Nat} {R : Nat → Li} {x : Nat} {m : ByteArray → Option Ix.Sp} {sp : ByteArray → Nat → Nat} (H : EnIn D L w e c R x m b) (r : Rel R m sp Q b) (hD : ∀ k, w.heap.size ≤ k → D k) (hb : b ≤ 900000) (k : ByteArray) (hk : k.size ≤ 1000) {i : Nat} (hi : i < 3) (hn : sp k i = 0) (hfit : (Q 0).length + (Q 1).length + (Q 2).length + 1 ≤ b) :
    Calls Try.prog 84 #[.pointer (some ⟨e, 0, none⟩), .string k, .int .i64 (i : Nat)] w fun ee w' => ee = .returned (.tuple #[]) ∧ EN D w' e c (layAt Q k i) b ∧ Keeps D w w' := by
  have hs := spot_raw H r hb k hk
  have hni : (R i).n ≤ 900000 := by have := r.few i hi; omega
  have hQi : A.cut (Q i) k = Q i := A.cut_same ((r.zero hi).1 hn)
  have hQe : layAt Q k i = fun j => if j = i then Q j ++ [k] else Q j := by
    funext j
    unfold layAt
    by_cases ej : j = i
    · subst ej; simp [hQi]
    · simp [ej]
  have hli : (Q i).length + 1 ≤ b := by
    have : i = 0 ∨ i = 1 ∨ i = 2 := by omega
    rcases this with ei | ei | ei <;> subst ei <;> omega
  have HH : Hid (EnIn D L w e c R x m b) := H
  obtain ⟨hd, hhd⟩ : ∃ hd, hd = Ls.handOf (R i).free (R i).n := ⟨_, rfl⟩
  have HT : Hid (Rel (pushR R i hd k) (Ix.put m k (some (trip (spu sp k i hd) k))) (spu sp k i hd) (layAt Q k i) b) := by
    have := r.lay hi hn hk (Ls.LA.hand (H.li i hi)).1 (Ls.LA.hand0 (H.li i hi)) (more_few H r hi hli)
    rw [← hQe, ← hhd] at this
    exact this
  have HF : Hid (∀ l : List ByteArray, l.Nodup → (∀ k ∈ l, m k ≠ none) → l.length + 1 ≤ b) := fun l h1 h2 => by have := r.fits l h1 h2; omega
  have HD : Hid (∀ k, w.heap.size ≤ k → D k) := hD
  have HHd : Hid (hd = Ls.handOf (R i).free (R i).n) := hhd
  clear H r hD hQi hQe hli hfit hhd
  go_enter Try.func84, Try.ntmps84
  go_wp2_with (go_at_call 44; refine hs.mono ?_; clear hs; rintro ee w1 ⟨rfl, hb1⟩)
  obtain ⟨W, hW⟩ : ∃ W, W = w1.alloc (.cells #[.int .i64 ((trip sp k).1 : Nat), .int .i64 ((trip sp k).2.1 : Nat), .int .i64 ((trip sp k).2.2 : Nat)] 53) := ⟨_, rfl⟩
  have hS : Ix.SpotAt W w1.heap.size (trip sp k) := by rw [hW]; exact spotAt_new w1 _
  have HS : Hid (Ix.SpotAt W w1.heap.size (trip sp k)) := hS
  obtain ⟨D1, hDD⟩ : ∃ D1 : Nat → Prop, D1 = fun k => D k ∧ k ≠ w1.heap.size := ⟨_, rfl⟩
  have H1 : Hid (EnIn D1 L W e c R x m b) := by rw [hW, hDD]; exact HH.out.boxed hb1 _
  have hsz : W.heap.size = w1.heap.size + 1 := by rw [hW, World.size_alloc]
  have hbW : Hid (Below w.heap.size w W) := by rw [hW]; exact hb1.alloc hb1.size _
  have hD1 : Hid (∀ k, W.heap.size ≤ k → D1 k) := by show ∀ k, W.heap.size ≤ k → D1 k; rw [hDD]; exact fun k h => ⟨HD.out k (Nat.le_trans hbW.out.size h), by omega⟩
  have hDD4 : ∀ k, w1.heap.size < k → D1 k := by rw [hDD]; exact fun k h => ⟨HD.out k (by have := hb1.size; omega), by omega⟩
  have hDn : Hid (¬ D1 w1.heap.size) := by show ¬ D1 w1.heap.size; rw [hDD]; exact fun h => h.2 rfl
  have hDi : Hid (∀ k, D1 k → D k) := by show ∀ k, D1 k → D k; rw [hDD]; exact fun k h => h.1
  have hDm : Hid (D w1.heap.size) := HD.out _ hb1.size
  have hat := hand_at hS hi
  rw [hn] at hat
  have hrow := H1.out.row hi
  have hnl : Hid (w1.heap.size < W.heap.size) := by show w1.heap.size < W.heap.size; omega
  obtain ⟨n, hnn⟩ : ∃ n, n = w1.heap.size := ⟨_, rfl⟩
  rw [← hW]
  rw [← hnn] at hat HS hDn hDm hnl hDD4 ⊢
  have hq : ∀ q : Nat, LiAt (own D1 L W.heap.size i) (W.drewN q) (R i) := fun q => Ls.LA.below (H1.out.list hi) (below_drewN (Below.refl _ W) q)
  clear hW hS hsz hb1 hnn hDD
  go_quiet (first | (go_at_call 94; exact Calls.quiet_of_same (Ls.toBack_no (hq _) (by omega))))
  go_wp2_with fail
  go_cut [] from 20 (fun wx => Ix.SpotAt wx n (trip (spu sp k i hd) k) ∧ (∃ L, EnIn D1 L wx e c (pushR R i hd k) x m b) ∧ Keeps D w wx)
  case first =>
    go_region_with (first
      | (go_at_call 52; refine (Ix.clone_any k hk _).mono ?_; rintro ee w2 ⟨rfl, hb2⟩; have hb2' : Below W.heap.size W w2 := below_trans (below_drewN (Below.refl _ W) _) (undrew hb2); have H2 : Hid (EnIn D1 L w2 e c R x m b) := H1.out.below hb2'; have HS2 : Hid (Ix.SpotAt w2 n (trip sp k)) := HS.out.below hb2'; have HB2 : Hid (Below w.heap.size w w2) := below_trans hbW.out hb2'; have HD2 : Hid (∀ k, w2.heap.size ≤ k → D1 k) := (fun k h => hD1.out k (Nat.le_trans hb2'.size h)); have hr2 := H2.out.row hi; clear hb2 hb2')
      | (go_at_call 95; refine (Ls.pushBack_any (H2.out.list hi) (own_new _ _ _ _) k hni).mono ?_; rintro ee w3 ⟨rfl, hl3, hk3⟩; have h3 := push_end hi HD2.out H2.out hl3 hk3 HS2.out hDn.out; have H3 : Hid (EnIn D1 _ w3 e c (pushR R i (Ls.handOf (R i).free (R i).n) k) x m b) := h3.1; have HK3 : Hid (Keeps D w w3) := (Keeps.of_below HB2.out).trans (h3.2.1.mono (fun k _ h => hDi.out k h)); have HS3 : Hid (Ix.SpotAt w3 n (trip sp k)) := h3.2.2; have hat3 := hand_at h3.2.2 hi; have hfz3 := hand_fz h3.2.2 i; clear hl3 hk3 h3))
    all_goals (go_wp2_with fail; go_meet; case rel => (rw [HHd.out]; exact ⟨hand_set HS3.out hi _, ⟨_, store_end H3.out hDn.out⟩, HK3.out.setCell hDm.out _⟩))
  case rest =>
    obtain ⟨hS4, ⟨L4, h4⟩, hK4⟩ := hcut
    have H4 : Hid (EnIn D1 L4 wc e c (pushR R i hd k) x m b) := h4
    have HK4 : Hid (Keeps D w wc) := hK4
    have HD4 : Hid (∀ k, wc.heap.size ≤ k → D1 k) := fun k h => hDD4 k (Nat.lt_of_lt_of_le (lt_of_block hS4) h)
    obtain ⟨_, _, c64, _, heo4⟩ := h4.cells
    obtain ⟨z0, z1, z2, zl⟩ := hS4.cells
    obtain ⟨v, hv⟩ : ∃ v, v = trip (spu sp k i hd) k := ⟨_, rfl⟩
    have HV : Hid (v = trip (spu sp k i hd) k) := hv
    rw [← hv] at z0 z1 z2
    have hput := Ix.put_fit (w := wc.drew) H4.out.drewI.index (own_new _ _ _ _) k hk v (by omega) (fun _ => HF.out)
    clear h4 hK4 hrow hat hq hS4 hv
    go_wp2_with fail
    go_region_with (go_at_call 90; refine hput.mono ?_; rintro ee w5 ⟨rfl, hx5, hk5⟩)
    all_goals
      go_end0
      have hk6 := (Keeps.refl _ wc).drew.trans hk5
      have h6 := H4.out.putX HD4.out hk6 hx5
      have hT : Rel (pushR R i hd k) (Ix.put m k (some v)) (spu sp k i hd) (layAt Q k i) b := by rw [HV.out]; exact HT.out
      exact ⟨rfl, ⟨_, _, _, _, spu sp k i hd, h6.wide (fun k _ h => hDi.out k h), hT⟩, HK4.out.trans ((own_keeps HD4.out hk6).mono (fun k _ h => hDi.out k h))⟩
theorem lay_any (H : EN D w e c Q b) (hD : ∀ k, w.heap.size ≤ k → D k) (hb : b ≤ 900000) (k : ByteArray) (hk : k.size ≤ 1000) (i : Nat) (hi : i < 3) (hfit : (Q 0).length + (Q 1).length + (Q 2).length + 1 ≤ b) :
    Calls Try.prog 84 #[.pointer (some ⟨e, 0, none⟩), .string k, .int .i64 (i : Nat)] w fun ee w' => ee = .returned (.tuple #[]) ∧ EN D w' e c (layAt Q k i) b ∧ Keeps D w w' := by
  obtain ⟨L, R, x, m, sp, h, r⟩ := H
  by_cases hn : sp k i = 0
  · exact lay_new h r hD hb k hk hi hn hfit
  · exact lay_old h r hD hb k hk hi hn
end
end Go.Proofs.Ytcbaalodhgkgmaa
