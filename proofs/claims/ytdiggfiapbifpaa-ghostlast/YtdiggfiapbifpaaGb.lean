/- Of a ghost: drop, Add. -/
import Derived.Test.YtdiggfiapbifpaaGa
namespace Go.Proofs.Ytdiggfiapbifpaa
open Go.RowKit

section
variable {D : Nat → Prop} {w : World} {e c b : Nat} {Q : List ByteArray}
set_option maxHeartbeats 1000000 in
theorem drop_any {k : ByteArray} (H : GH e c b (k :: Q) D w) (hD : ∀ k, w.heap.size ≤ k → D k) (hb : b ≤ 900000) :
    Calls Try.prog 28 #[.pointer (some ⟨e, 0, none⟩)] w fun ee w' => ee = .returned (.string k) ∧ GH e c b Q D w' ∧ Keeps D w w' := by
  have hk : k.size ≤ 1000 := H.size (by simp)
  obtain ⟨L, R, x, m, H, r⟩ := H
  obtain ⟨c0, c1, c2, heo⟩ := H.cells
  have HD : Hid (∀ k, w.heap.size ≤ k → D k) := hD
  have hkeys := r.keys
  obtain ⟨h, rr, hr⟩ : ∃ h rr, R.row = h :: rr := by
    cases hx : R.row with
    | nil => rw [hx] at hkeys; simp at hkeys
    | cons h rr => exact ⟨h, rr, rfl⟩
  have hv : R.va h = k := by rw [hr] at hkeys; simp at hkeys; exact hkeys.1
  have hmk : m k = some ((h : Nat) : Int) := by have := r.onto h (by rw [hr]; simp); rw [hv] at this; exact this
  have HM : Hid (m k = some ((h : Nat) : Int)) := hmk
  have hfr := Ls.front_any (Ls.LA.kept (D := fun _ => False) H.li (Keeps.refl _ w).drew (fun _ _ e => e))
  rw [hr] at hfr
  have hn : R.n ≤ 1000000 := by have := r.few; omega
  have hcut : G.cut (k :: Q) k = Q := by
    have hnd := r.keysNd
    rw [List.nodup_cons] at hnd
    rw [G.cut_cons_self, G.cut_same hnd.1]
  have HRel : Hid (Rel { R with row := rr, free := h :: R.free, va := Ls.upd R.va h ⟨#[]⟩ } (Ix.put m k Option.none) Q b) := by
    have := r.take (l := []) (r := rr) (by simpa using hr) hv
    rw [hcut] at this
    exact this
  have hrem : ∀ w1 : World, LiAt (own D L w.heap.size 0) w1 R → Calls Try.prog 30 #[.pointer (some ⟨R.pr, 0, none⟩), .int .i64 (h : Nat)] w1 fun ee w' => ee = .returned (.tuple #[.string k, .bool true]) ∧ LiAt (own D L w.heap.size 0) w' { R with row := rr, free := h :: R.free, va := Ls.upd R.va h ⟨#[]⟩ } ∧ Keeps (own D L w.heap.size 0) w1 w' := by
    intro w1 h1
    rw [LiAt, hr] at h1
    have := Ls.remove_in (l := []) (r := rr) h h1 hn
    rw [hv] at this
    exact this
  have HH : Hid (GhIn D L w e c R x m b) := H
  have HLi : Hid (LiAt (own D L w.heap.size 0) w R) := H.list
  have HLd : Hid (LiAt (own D L w.heap.size 0) w.drew R) := (GhIn.list H).kept (D := fun _ => False) (Keeps.refl _ w).drew (fun _ _ e => e)
  clear H r hkeys hr hv hmk hcut hD
  go_enter Try.func28, Try.ntmps28
  go_wp2_with fail
  go_region_with (first
    | (go_at_call 40; refine Calls.mono hfr ?_; rintro ee w1 ⟨rfl, rfl⟩)
    | (go_at_call 30; refine Calls.mono (hrem _ HLd.out) ?_; rintro ee w2 ⟨rfl, hl2, hk2⟩; have hk2' : Keeps (own D L w.heap.size 0) w w2 := (Keeps.refl _ w).drew.trans hk2; have HE2 : Hid (GhIn D _ w2 e c _ x m b) := HH.out.putL HD.out hk2' hl2 rfl; obtain ⟨d0, d1, d2, heo2⟩ := HE2.out.cells; have HK2 : Hid (Keeps D w w2) := own_keeps HD.out hk2'; have hdel := Ix.delete_hit HE2.out.index (by omega) k (by unfold maxLen; omega) HM.out; clear hl2 hk2 hk2'))
  all_goals
    go_wp2_with (go_at_call 29; refine Calls.mono hdel ?_; rintro ee w3 ⟨rfl, hx3, hk3⟩; have HE3 : Hid _ := HE2.out.putX (fun k hk => HD.out k (Nat.le_trans HK2.out.size hk)) hk3 hx3; have HK3 : Hid (Keeps D w2 w3) := own_keeps (fun k hk => HD.out k (Nat.le_trans HK2.out.size hk)) hk3; clear hx3 hk3)
    go_ret
    exact ⟨rfl, ⟨_, _, _, _, HE3.out, HRel.out⟩, HK2.out.trans HK3.out⟩
/-- what Add answers -/
def told (o : Option ByteArray) : Value := .tuple #[.string (o.getD ⟨#[]⟩), .bool o.isSome]
set_option maxHeartbeats 1000000 in
theorem add_old (H : GH e c b Q D w) (hok : G.Ok c Q) (hD : ∀ k, w.heap.size ≤ k → D k) (hb : b ≤ 800000) (k : ByteArray) (hk : k.size ≤ 1000) (hm : k ∈ Q) :
    Calls Try.prog 10 #[.pointer (some ⟨e, 0, none⟩), .string k] w fun ee w' => ee = .returned (told (G.add c Q k).1) ∧ GH e c b (G.add c Q k).2 D w' ∧ Keeps D w w' := by
  rw [G.add_in hok hm]
  obtain ⟨L, R, x, m, H, r⟩ := H
  obtain ⟨c0, c1, c2, heo⟩ := H.cells
  obtain ⟨h, h1, h2, h3⟩ := r.some hm
  obtain ⟨l, rr, hr⟩ := split_mem h2
  have hg := Ix.get_hit H.index (by omega) k (by unfold maxLen; omega) h1
  have HR : Hid _ := r.back hr h3
  have hn : R.n ≤ 1000000 := by have := r.few; omega
  have HD : Hid (∀ k, w.heap.size ≤ k → D k) := hD
  have HH : Hid (GhIn D L w e c R x m b) := H
  have HLi : Hid (∀ q, Ls.LA Value.string 72 62 (own D L w.heap.size 0) (w.drewN q) R.pr (l ++ h :: rr) R.free R.va R.n) := fun q => by
    have := (GhIn.list H).kept (D := fun _ => False) ((Keeps.refl _ w).drewN q) (fun _ _ e => e)
    rw [hr] at this
    exact this
  clear H r hm h1 h2 h3 hr hD hok
  go_enter Try.func10, Try.ntmps10
  go_wp2_with (first
    | (go_at_call 22; refine Calls.mono hg ?_; clear hg; rintro ee w1 ⟨rfl, q, rfl⟩)
    | (go_at_call 23; refine (Ls.toBack_in h (HLi.out _) hn).mono ?_; rintro ee w2 ⟨rfl, hl2, hk2⟩; have HL2 : Hid (LiAt (own D L w.heap.size 0) w2 { R with row := l ++ rr ++ [h] }) := hl2; have HK2 : Hid (Keeps (own D L w.heap.size 0) w w2) := ((Keeps.refl _ w).drewN _).trans hk2; clear hl2 hk2))
  go_ret2
  exact ⟨rfl, ⟨_, _, _, _, HH.out.putL HD.out HK2.out HL2.out rfl, HR.out⟩, own_keeps HD.out HK2.out⟩
/-- a key laid: the list behind PushBack, the index behind Put -/
theorem laid_end {L : Nat → Nat} {R : Li} {x : Nat} {m : ByteArray → Option Int} {w1 w2 : World} {k : ByteArray} (hD : ∀ k, w.heap.size ≤ k → D k) (Hr : Rel R m Q b) (hh : Ls.handOf R.free R.n ∉ R.row) (hn : k ∉ Q) (hs : k.size ≤ 1000)
    (H1 : GhIn D L w1 e c R x m b) (k1 : Keeps D w w1) (hl : LiAt (own D L w1.heap.size 0) w2 { R with row := R.row ++ [Ls.handOf R.free R.n], free := R.free.tail, va := Ls.upd R.va (Ls.handOf R.free R.n) k, n := Ls.moreOf R.free R.n }) (hk : Keeps (own D L w1.heap.size 0) w1 w2) :
    GhIn D (nlab L w1.heap.size 0) w2 e c { R with row := R.row ++ [Ls.handOf R.free R.n], free := R.free.tail, va := Ls.upd R.va (Ls.handOf R.free R.n) k, n := Ls.moreOf R.free R.n } x m b ∧ Keeps D w w2 ∧
      ∀ w3, XAt (own D (nlab L w1.heap.size 0) w2.heap.size 1) w3 x (Ix.put m k (some ((Ls.handOf R.free R.n : Nat) : Int))) (b + 1) → Keeps (own D (nlab L w1.heap.size 0) w2.heap.size 1) w2 w3 → GH e c (b + 1) (Q ++ [k]) D w3 ∧ Keeps D w w3 := by
  have hD1 : ∀ k, w1.heap.size ≤ k → D k := fun j hj => hD j (Nat.le_trans k1.size hj)
  have h2 := H1.putL hD1 hk hl rfl
  have k2 := k1.trans (own_keeps hD1 hk)
  have hD2 : ∀ k, w2.heap.size ≤ k → D k := fun j hj => hD j (Nat.le_trans k2.size hj)
  exact ⟨h2, k2, fun w3 hx hk3 => ⟨⟨_, _, _, _, h2.putX hD2 hk3 hx, Hr.lay hn hs hh⟩, k2.trans (own_keeps hD2 hk3)⟩⟩
set_option maxHeartbeats 1000000 in
theorem add_new (H : GH e c b Q D w) (hok : G.Ok c Q) (hD : ∀ k, w.heap.size ≤ k → D k) (hb : b ≤ 800000) (k : ByteArray) (hk : k.size ≤ 1000) (hm : k ∉ Q) :
    Calls Try.prog 10 #[.pointer (some ⟨e, 0, none⟩), .string k] w fun ee w' => ee = .returned (told (G.add c Q k).1) ∧ GH e c (b + 1) (G.add c Q k).2 D w' ∧ Keeps D w w' := by
  have hlaid : G.laid Q k = Q ++ [k] := G.laid_out hm
  have hlen : (Q ++ [k]).length = Q.length + 1 := by simp
  have HM : Hid (k ∉ Q) := hm
  have HD : Hid (∀ k, w.heap.size ≤ k → D k) := hD
  obtain ⟨L, R, x, m, H, r⟩ := H
  obtain ⟨c0, c1, c2, heo⟩ := H.cells
  have hg := Ix.get_miss H.index (by omega) k (by unfold maxLen; omega) (r.none hm)
  have HH : Hid (GhIn D L w e c R x m b) := H
  have HR : Hid (Rel R m Q b) := r
  have HHand : Hid (Ls.handOf R.free R.n ∉ R.row) := (Ls.LA.hand H.li).1
  have hn : R.n ≤ 900000 := by have := r.few; omega
  have hQ : Q.length ≤ 1024 := by have := hok.2.1; have := hok.2.2; omega
  clear H r hm hD
  go_enter Try.func10, Try.ntmps10
  go_wp2_with (go_at_call 22; refine Calls.mono hg ?_; clear hg; rintro ee w1 ⟨rfl, q, rfl⟩)
  have HH1 : Hid (GhIn D L (w.drewN q) e c R x m b) := HH.out.kept (D' := fun _ => False) ((Keeps.refl _ w).drewN q) (fun _ _ _ e => e)
  have HK1 : Hid (Keeps D w (w.drewN q)) := (Keeps.refl _ w).drewN q
  clear HH c0 c1 c2 heo
  generalize w.drewN q = W at HH1 HK1 ⊢
  obtain ⟨c0, c1, c2, heo⟩ := HH1.out.cells
  go_cut [] from 26 (fun wx => GH e c (b + 1) (Q ++ [k]) D wx ∧ Keeps D w wx)
  case first =>
    go_region_with (first
      | (go_at_call 26; refine (Ix.clone_any k hk _).mono ?_; rintro ee w2 ⟨rfl, hb2⟩; have hb2' : Below W.heap.size W w2 := ⟨hb2.os, hb2.tape, hb2.output, hb2.size, hb2.block⟩; have H2 : Hid (GhIn D L w2 e c R x m b) := HH1.out.below hb2'; have HK2 : Hid (Keeps D w w2) := HK1.out.trans (.of_below hb2'); obtain ⟨d0, d1, d2, heo2⟩ := H2.out.cells; clear hb2 hb2')
      | (go_at_call 25; refine (Ls.pushBack_any H2.out.list (own_new _ _ _ _) k hn).mono ?_; rintro ee w3 ⟨rfl, hl3, hk3⟩; have h3 := laid_end HD.out HR.out HHand.out HM.out hk H2.out HK2.out hl3 hk3; have H3 : Hid (GhIn D _ w3 e c _ x m b) := h3.1; have HN3 : Hid _ := h3.2.2; obtain ⟨f0, f1, f2, heo3⟩ := H3.out.cells; clear hl3 hk3 h3)
      | (go_at_call 24; refine (Ix.put_any H3.out.index (own_new _ _ _ _) k hk ((Ls.handOf R.free R.n : Nat) : Int) (by omega)).mono ?_; rintro ee w4 ⟨rfl, hx4, hk4⟩; have HN4 : Hid _ := HN3.out w4 hx4 hk4; clear hx4 hk4))
    all_goals (go_wp2_with fail; go_meet; case rel => exact HN4.out)
  case rest =>
    obtain ⟨H4, K4⟩ := hcut
    have HH4 : Hid (GH e c (b + 1) (Q ++ [k]) D wc) := H4
    have HK4 : Hid (Keeps D w wc) := K4
    obtain ⟨L4, R4, x4, m4, h4, r4⟩ := H4
    obtain ⟨d0, d1, d2, heo4⟩ := h4.cells
    have hlen4 : Calls Try.prog 27 #[.pointer (some ⟨R4.pr, 0, none⟩)] wc.drew fun ee w' => ee = .returned (.int .i64 (Q.length + 1 : Nat)) ∧ w' = wc.drew := by
      have := Ls.len_any (h4.li.kept (D := fun _ => False) (Keeps.refl _ wc).drew (fun _ _ e => e))
      rw [r4.len, hlen] at this
      exact this
    have HD4 : Hid (∀ k, wc.heap.size ≤ k → D k) := fun j hj => HD.out j (Nat.le_trans K4.size hj)
    have hq4 : IntKind.i64.wrap ((Q.length : Int) + 1) = (Q.length : Int) + 1 := by rw [IntKind.wrap_i64]; omega
    clear h4 r4 K4 hn heo c0 c1 c2 HH1 HK1 HR
    by_cases hf : Q.length + 1 ≤ c
    · have HA : Hid (G.add c Q k = (none, Q ++ [k])) := by
        show G.add c Q k = _
        rw [G.add_fit (by rw [hlaid, hlen]; exact hf), hlaid]
      have hle : (((Q.length + 1 : Nat) : Int) ≤ (c : Int)) := by omega
      clear hf hok hlaid hlen
      generalize Q.length + 1 = n at *
      go_wp2_with fail
      go_region_with (go_at_call 27; refine Calls.mono hlen4 ?_; rintro ee w5 ⟨rfl, rfl⟩)
      all_goals
        go_wp2_with fail
        go_ret2
        rw [HA.out]
        exact ⟨rfl, HH4.out.drew, HK4.out.drew⟩
    · obtain ⟨y, r, hy⟩ : ∃ y r, Q ++ [k] = y :: r := by cases Q with
        | nil => exact ⟨k, [], rfl⟩
        | cons y r => exact ⟨y, r ++ [k], rfl⟩
      have HA : Hid (G.add c Q k = (some y, r)) := by
        show G.add c Q k = _
        exact G.add_over (by rw [hlaid, hlen]; omega) (by rw [hlaid, hy])
      have hle : ¬ (((Q.length + 1 : Nat) : Int) ≤ (c : Int)) := by omega
      have hdrop : Calls Try.prog 28 #[.pointer (some ⟨e, 0, none⟩)] wc.drew fun ee w' => ee = .returned (.string y) ∧ GH e c (b + 1) r D w' ∧ Keeps D wc.drew w' := drop_any (by have := HH4.out.drew; rw [hy] at this; exact this) HD4.out (by omega)
      clear hf hok hlaid hlen hy
      generalize Q.length + 1 = n at *
      go_wp2_with fail
      go_region_with (go_at_call 27; refine Calls.mono hlen4 ?_; rintro ee w5 ⟨rfl, rfl⟩)
      all_goals
        go_wp2_with (go_at_call 28; refine Calls.mono hdrop ?_; rintro ee w6 ⟨rfl, h6, hk6⟩)
        go_ret2
        rw [HA.out]
        exact ⟨rfl, h6, HK4.out.drew.trans hk6⟩
theorem add_any (H : GH e c b Q D w) (hok : G.Ok c Q) (hD : ∀ k, w.heap.size ≤ k → D k) (hb : b ≤ 800000) (k : ByteArray) (hk : k.size ≤ 1000) :
    Calls Try.prog 10 #[.pointer (some ⟨e, 0, none⟩), .string k] w fun ee w' => ee = .returned (told (G.add c Q k).1) ∧ GH e c (b + 1) (G.add c Q k).2 D w' ∧ Keeps D w w' := by
  by_cases hm : k ∈ Q
  · exact (add_old H hok hD hb k hk hm).mono fun _ _ ⟨h1, h2, h3⟩ => ⟨h1, h2.more (by omega), h3⟩
  · exact add_new H hok hD hb k hk hm
end
end Go.Proofs.Ytdiggfiapbifpaa
