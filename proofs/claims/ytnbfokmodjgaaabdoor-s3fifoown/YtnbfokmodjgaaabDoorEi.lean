/- Of an engine: Get of the index; use (one more use of a key). -/
import Derived.Test.YtnbfokmodjgaaabDoorEf
namespace Go.Proofs.YtnbfokmodjgaaabDoor
open Go.RowKit

theorem inc_any (n : Nat) (hn : n ≤ 3) (w : World) : Calls Tryd.prog 55 #[.int .i64 (n : Nat), .int .i64 3] w fun ee w' => ee = .returned (.int .i64 ((min 3 (n + 1) : Nat) : Int)) ∧ w' = w := by
  have h : n = 0 ∨ n = 1 ∨ n = 2 ∨ n = 3 := by omega
  rcases h with rfl | rfl | rfl | rfl
  all_goals
    go_enter Tryd.func55, Tryd.ntmps55
    go_wp2
    go_ret
    exact ⟨rfl, rfl⟩
theorem used_same {l : List Ls.It} {k : ByteArray} (h : k ∉ A.ks l) : l.map (A.used k) = l := by
  have : l.map (A.used k) = l.map id := List.map_congr_left (fun x hx => by
    unfold A.used
    rw [if_neg (fun e => h (A.ks_mem.2 ⟨x, hx, e⟩))]
    rfl)
  rw [this, List.map_id]
section
variable {D : Nat → Prop} {w w' : World} {e b c : Nat} {Q : Nat → List Ls.It}
/-- where a key stands, as the index tells it in whatever world that is as w was -/
def Finds (x : Nat) (key : ByteArray) (v : Ix.Sp) (known : Bool) (w : World) : Prop :=
  ∀ W : World, Below w.heap.size w W → Calls Tryd.prog 30 #[.pointer (some ⟨x, 0, none⟩), .string key] W fun ee w' => ee = .returned (.tuple #[Ix.V v, .bool known]) ∧ Below W.heap.size W w'
theorem EN.get (H : EN D w e c Q b) (hb : b ≤ 900000) (key : ByteArray) (hk : key.size ≤ 1000) :
    ∃ x, w.cell? ⟨e, 4, none⟩ = some (.pointer (some ⟨x, 0, none⟩)) ∧ (((∀ i, i < 3 → key ∉ A.ks (Q i)) ∧ Finds x key (0, 0) false w) ∨ ∃ i h, i < 3 ∧ key ∈ A.ks (Q i) ∧ (∀ j, j < 3 → j ≠ i → key ∉ A.ks (Q j)) ∧ Finds x key (i, h) true w) := by
  obtain ⟨L, R, x, m, H, r⟩ := H
  refine ⟨x, H.cells.2.2.1, ?_⟩
  cases hm : m key with
  | none => exact .inl ⟨r.none.1 hm, fun W hW => Ix.get_miss (H.below hW).index (by omega) key (by unfold maxLen; omega) hm⟩
  | some v =>
    obtain ⟨i, h⟩ := v
    obtain ⟨h1, h2, h3⟩ := r.some hm
    exact .inr ⟨i, h, h1, h2, h3, fun W hW => Ix.get_hit (H.below hW).index (by omega) key (by unfold maxLen; omega) hm⟩
/-- what use asks of the list in which a key stands -/
structure Uses (e c b i h n pr : Nat) (key : ByteArray) (Q : Nat → List Ls.It) (D : Nat → Prop) (w : World) : Prop where
  row : ∀ W, Below w.heap.size w W → W.cell? ⟨e, 1 + i, none⟩ = some (.pointer (some ⟨pr, 0, none⟩)) ∧ e < W.heap.size
  get : ∀ W, Below w.heap.size w W → Calls Tryd.prog 54 #[.pointer (some ⟨pr, 0, none⟩), .int .i64 (h : Nat)] W fun ee w' => ee = .returned (.tuple #[.agg #[.string key, .int .i64 (n : Nat)], .bool true]) ∧ Below W.heap.size W w'
  set : ∀ W, Below w.heap.size w W → Calls Tryd.prog 56 #[.pointer (some ⟨pr, 0, none⟩), .int .i64 (h : Nat), .agg #[.string key, .int .i64 ((min 3 (n + 1) : Nat) : Int)]] W fun ee w' => ee = .returned (.bool true) ∧ EN D w' e c (fun j => if j = i then (Q j).map (A.used key) else Q j) b ∧ Keeps D W w'
theorem EN.uses (H : EN D w e c Q b) (hD : ∀ k, w.heap.size ≤ k → D k) (hb : b ≤ 900000) (key : ByteArray) (hk : key.size ≤ 1000) {i : Nat} (hi : i < 3) (hin : key ∈ A.ks (Q i)) :
    ∃ x h n pr, w.cell? ⟨e, 4, none⟩ = some (.pointer (some ⟨x, 0, none⟩)) ∧ Finds x key (i, h) true w ∧ n ≤ 3 ∧ h ≤ 900000 ∧ Uses e c b i h n pr key Q D w := by
  obtain ⟨L, R, x, m, H, r⟩ := H
  cases hm : m key with
  | none => exact absurd hin (r.none.1 hm i hi)
  | some v =>
    obtain ⟨i2, h⟩ := v
    obtain ⟨h1, h2, h3⟩ := r.some hm
    have hii : i2 = i := by
      by_cases e : i = i2
      · exact e.symm
      · exact absurd hin (h3 i hi e)
    subst hii
    obtain ⟨-, hin2, hv⟩ := (r.spot key i2 h).1 hm
    have hmemQ : (R i2).va h ∈ Q i2 := by rw [← r.keys i2 hi]; exact List.mem_map.2 ⟨h, hin2, rfl⟩
    have hn3 := (r.size i2 hi _ hmemQ).2
    have hfew := r.few i2 hi
    have hhn : h ≤ (R i2).n := by
      obtain ⟨s, _, R', _, hn⟩ := H.li i2 hi
      have := (R'.mem h).1 (by simp [hin2])
      omega
    refine ⟨x, h, ((R i2).va h).n, (R i2).pr, H.cells.2.2.1, fun W hW => Ix.get_hit (H.below hW).index (by omega) key (by unfold maxLen; omega) hm, hn3, by omega, fun W hW => ⟨(H.below hW).row hi, Nat.lt_of_lt_of_le (lt_of_block H.top) hW.size⟩, fun W hW => ?_, fun W hW => ?_⟩
    · have := Ls.get_in ((H.below hW).list hi) h hin2 (by omega)
      rw [hv] at this
      exact this
    · have hDW : ∀ k, W.heap.size ≤ k → D k := fun k h => hD k (Nat.le_trans hW.size h)
      refine (Ls.set_in ((H.below hW).list hi) h hin2 ⟨key, min 3 (((R i2).va h).n + 1)⟩ (by omega)).mono ?_
      rintro ee w' ⟨e1, e2, e3⟩
      refine ⟨e1, ⟨_, _, _, _, (H.below hW).putL hDW (l := { R i2 with row := (R i2).row, va := Ls.upd (R i2).va h ⟨key, min 3 (((R i2).va h).n + 1)⟩ }) hi e3 e2 rfl, ?_⟩, own_keeps hDW e3⟩
      have h5 := r.set (i := i2) (h := h) hi hin2 (min 3 (((R i2).va h).n + 1)) (by omega) (List.Perm.refl _)
      rw [hv] at h5
      have e9 : (R i2).row.map (Ls.upd (R i2).va h ⟨key, min 3 (((R i2).va h).n + 1)⟩) = (Q i2).map (A.used key) := by
        rw [← r.keys i2 hi, List.map_map]
        refine List.map_congr_left (fun a ha => ?_)
        by_cases e : a = h
        · subst e
          rw [Ls.upd_same]
          show _ = A.used key ((R i2).va a)
          unfold A.used
          rw [if_pos hv, hv]
        · rw [Ls.upd_far _ _ e]
          show _ = A.used key ((R i2).va a)
          unfold A.used
          rw [if_neg]
          intro e8
          have := (r.spot key i2 a).2 ⟨hi, ha, e8⟩
          rw [hm] at this
          cases this
          exact e rfl
      rw [e9] at h5
      have e10 : (fun j => if j = i2 then (Q i2).map (A.used key) else Q j) = fun j => if j = i2 then (Q j).map (A.used key) else Q j := by
        funext j
        by_cases e : j = i2 <;> simp [e]
      rw [e10] at h5
      exact h5
set_option maxRecDepth 20000 in
set_option maxHeartbeats 2000000 in
theorem use_any {i h n pr : Nat} {key : ByteArray} (hi : i < 3) (hn : n ≤ 3) (HU : Uses e c b i h n pr key Q D w) :
    Calls Tryd.prog 32 #[.pointer (some ⟨e, 0, none⟩), .agg #[.int .i64 (i : Nat), .int .i64 (h : Nat)]] w fun ee w' => ee = .returned (.tuple #[]) ∧ EN D w' e c (fun j => if j = i then (Q j).map (A.used key) else Q j) b ∧ Keeps D w w' := by
  obtain ⟨W0, hW0⟩ : ∃ W0, W0 = w.alloc (.cells #[.int .i64 (i : Nat), .int .i64 (h : Nat)] 47) := ⟨_, rfl⟩
  have hbw : Below w.heap.size w W0 := by rw [hW0]; exact (Below.refl _ w).alloc (Nat.le_refl _) _
  have hsp : W0.heap[w.heap.size]? = some (Obj.cells #[.int .i64 (i : Nat), .int .i64 (h : Nat)] 47 (0, 0)) := by rw [hW0]; exact heap_alloc_new w _
  have HUu : Hid (Uses e c b i h n pr key Q D w) := HU
  have HS : Hid (∀ W : World, Below W0.heap.size W0 W → W.cell? ⟨e, 1 + i, none⟩ = some (.pointer (some ⟨pr, 0, none⟩)) ∧ W.cell? ⟨w.heap.size, 0, none⟩ = some (.int .i64 (i : Nat)) ∧ W.cell? ⟨w.heap.size, 1, none⟩ = some (.int .i64 (h : Nat)) ∧ w.heap.size < W.heap.size) := fun W hW => by
    have hb := (hW.block w.heap.size (lt_of_block hsp)).trans hsp
    have y0 := cell_of_block (j := 0) hb
    have y1 := cell_of_block (j := 1) hb
    simp at y0 y1
    exact ⟨(HU.row W (below_tr hbw hW)).1, y0, y1, lt_of_block hb⟩
  have hiI : (i : Int) < 3 := by omega
  have hiI0 : (0 : Int) ≤ (i : Int) := by omega
  have HBw : Hid (Below w.heap.size w W0) := hbw
  have hinc := fun W => inc_any n hn W
  obtain ⟨n1, hn1⟩ : ∃ n1, n1 = min 3 (n + 1) := ⟨_, rfl⟩
  have HSet : Hid (∀ W, Below w.heap.size w W → Calls Tryd.prog 56 #[.pointer (some ⟨pr, 0, none⟩), .int .i64 (h : Nat), .agg #[.string key, .int .i64 (n1 : Nat)]] W fun ee w' => ee = .returned (.bool true) ∧ EN D w' e c (fun j => if j = i then (Q j).map (A.used key) else Q j) b ∧ Keeps D W w') := by
    rw [hn1]
    exact HU.set
  rw [← hn1] at hinc
  have HGet : Hid (∀ W, Below w.heap.size w W → Calls Tryd.prog 54 #[.pointer (some ⟨pr, 0, none⟩), .int .i64 (h : Nat)] W fun ee w' => ee = .returned (.tuple #[.agg #[.string key, .int .i64 (n : Nat)], .bool true]) ∧ Below W.heap.size W w') := HU.get
  have HB1 : Hid (Below W0.heap.size W0 W0.drew) := (Below.refl _ W0).drew
  have HB2 : Hid (Below W0.heap.size W0 (W0.alloc (.cells #[.string ⟨#[]⟩, .int .i64 0] 71)).drew) := ((Below.refl _ W0).alloc (Nat.le_refl _) _).drew
  have HB3 : Hid (Below W0.heap.size W0 (W0.drew.alloc (.cells #[.string ⟨#[]⟩, .int .i64 0] 71))) := ((Below.refl _ W0).drew).alloc (Nat.le_refl _) _
  have heo := (HU.row W0 hbw).2
  have hwl := lt_of_block hsp
  obtain ⟨s0, s1, s2, s3⟩ := HS.out W0.drew (Below.refl _ W0).drew
  clear HU hbw hsp hn1
  go_enter Tryd.func32, Tryd.ntmps32
  go_wp2_with fail
  rw [← hW0]
  clear hW0
  go_upto_region 1 with fail
  go_cut [4] from 6 (fun s4 wx => ∃ B : Nat, s4 = .pointer (some ⟨B, 0, none⟩) ∧ wx.heap[B]? = some (Obj.cells #[.string key, .int .i64 (n : Nat)] 71 (0, 0)) ∧ W0.heap.size ≤ B ∧ Below W0.heap.size W0 wx)
  case first =>
    go_region_held3 (fun w' => w'.cell? ⟨e, 1 + i, none⟩ = some (.pointer (some ⟨pr, 0, none⟩)) ∧ w'.cell? ⟨w.heap.size, 0, none⟩ = some (.int .i64 (i : Nat)) ∧ w'.cell? ⟨w.heap.size, 1, none⟩ = some (.int .i64 (h : Nat))) (first | exact ⟨t0, t1, t2⟩ | exact ⟨cell_store2 t0 (by omega), cell_store2 t1 (by omega), cell_store2 t2 (by omega)⟩ | exact ⟨s0, s1, s2⟩ | exact ⟨(HS.out _ HB2.out).1, (HS.out _ HB2.out).2.1, (HS.out _ HB2.out).2.2.1⟩ | exact ⟨(HS.out _ HB3.out).1, (HS.out _ HB3.out).2.1, (HS.out _ HB3.out).2.2.1⟩ | go_keep)
      (first
      | (go_at_call 54; refine Calls.mono (HGet.out _ (below_tr HBw.out HB1.out)) ?_; rintro ee w2 ⟨rfl, hb2⟩; have HX2 : Hid (Below W0.heap.size W0 w2) := below_tr HB1.out hb2; obtain ⟨t0, t1, t2, t3⟩ := HS.out w2 HX2.out)
      | (go_at_call 54; refine Calls.mono (HGet.out _ (below_tr HBw.out HB2.out)) ?_; rintro ee w2 ⟨rfl, hb2⟩; have HX2 : Hid (Below W0.heap.size W0 w2) := below_tr HB2.out hb2; obtain ⟨t0, t1, t2, t3⟩ := HS.out w2 HX2.out; have q5 := (hb2.block W0.heap.size (by show _ < (W0.alloc _).heap.size; simp)).trans (heap_alloc_new W0 _); have y0 := cell_of_block (j := 0) q5; have y1 := cell_of_block (j := 1) q5; have z0 := frozen_of_block (j := 0) q5; have z1 := frozen_of_block (j := 1) q5; simp at y0 y1)
      | (go_at_call 54; refine Calls.mono (HGet.out _ (below_tr HBw.out HB3.out)) ?_; rintro ee w2 ⟨rfl, hb2⟩; have HX2 : Hid (Below W0.heap.size W0 w2) := below_tr HB3.out hb2; obtain ⟨t0, t1, t2, t3⟩ := HS.out w2 HX2.out; have q5 := (hb2.block W0.heap.size (by show _ < (W0.drew.alloc _).heap.size; simp [World.drew])).trans (heap_alloc_new W0.drew _); have y0 := cell_of_block (j := 0) q5; have y1 := cell_of_block (j := 1) q5; have z0 := frozen_of_block (j := 0) q5; have z1 := frozen_of_block (j := 1) q5; simp at y0 y1))
    all_goals
      go_wp2_with fail
      go_meet
      case rel =>
        first
          | exact ⟨_, rfl, item_store q5, Nat.le_refl _, (keeps_store (D := fun k => W0.heap.size ≤ k) (Keeps.of_below HX2.out) (Nat.le_refl _) _ _).below (Nat.le_refl _) (fun _ h => h)⟩
          | exact ⟨_, rfl, heap_alloc_new w2 _, HX2.out.size, HX2.out.alloc HX2.out.size _⟩
  case rest =>
    obtain ⟨B, rfl, hblk, hB, hbx⟩ := hcut
    have HBk : Hid (wc.heap[B]? = some (Obj.cells #[.string key, .int .i64 (n : Nat)] 71 (0, 0))) := hblk
    have HBx : Hid (Below W0.heap.size W0 wc) := hbx
    have y0 := cell_of_block (j := 0) hblk
    have y1 := cell_of_block (j := 1) hblk
    have z1 := frozen_of_block (j := 1) hblk
    have hlt := lt_of_block hblk
    simp at y0 y1
    clear hblk hbx s0 s1 s2 s3
    go_wp2_with (go_at_call 55; refine Calls.mono (hinc _) ?_; rintro ee w3 ⟨rfl, rfl⟩)
    obtain ⟨W5, hW5⟩ : ∃ W5, W5 = w3.setCell ⟨B, 1, none⟩ (.int .i64 (n1 : Nat)) := ⟨_, rfl⟩
    have hblk5 : W5.heap[B]? = some (Obj.cells #[.string key, .int .i64 (n1 : Nat)] 71 (0, 0)) := by
      rw [hW5]
      have := block_setCell (j := 1) (u := .int .i64 (n1 : Nat)) HBk.out
      simpa using this
    have HB5 : Hid (Below W0.heap.size W0 W5.drew) := by
      rw [hW5]
      exact (((Keeps.of_below (D := fun k => W0.heap.size ≤ k) HBx.out).setCell (p := ⟨B, 1, none⟩) hB _).drew).below (Nat.le_refl _) (fun _ h => h)
    have hblk6 : W5.drew.heap[B]? = some (Obj.cells #[.string key, .int .i64 (n1 : Nat)] 71 (0, 0)) := hblk5
    have v0 := cell_of_block (j := 0) hblk6
    have v1 := cell_of_block (j := 1) hblk6
    have hlt5 := lt_of_block hblk6
    simp at v0 v1
    clear hblk6
    obtain ⟨s0, s1, s2, s3⟩ := HS.out W5.drew HB5.out
    have hset := HSet.out W5.drew (below_tr HBw.out HB5.out)
    rw [← hW5]
    clear hW5 hblk5 y0 y1 z1 hlt
    refine wp_region_still_tail 10 (by kernel_rfl) (by kernel_rfl) ?_
    simp only [List.take_succ_cons, List.take_zero, List.drop_succ_cons, List.drop_zero]
    change wpStill Tryd.prog _ W5.drew (fun a' => wpList Tryd.prog _ _ _ a' W5.drew) _ _
    repeat still_step
    refine wpStill_nil ?_
    go_wp2_with (go_at_call 56; refine Calls.mono hset ?_; rintro ee w6 ⟨rfl, h6, hk6⟩)
    go_end0
    exact ⟨rfl, h6, (Keeps.of_below (below_tr HBw.out HB5.out)).trans hk6⟩
end
end Go.Proofs.YtnbfokmodjgaaabDoor
