/- Of an engine: copies, Keys, Ghosts. -/
import Derived.Test.YtcbaalodhgkgmaaEo
namespace Go.Proofs.Ytcbaalodhgkgmaa
open Go.RowKit

/-- a row that All made -/
theorem row_owned {W : World} {B : Nat} {ad : Option Addr} {cap : Nat} {zs : List ByteArray} (h : W.ownsRow B 9 1 (.slice ad zs.length cap) zs.length (zs.map Value.string)) : Row (B ≤ ·) W ad cap zs := by
  rcases h.2 with ⟨h0, hn⟩ | ⟨g, cap', cur, hv, hb, hg, hn, hc, hcs, ht⟩
  · obtain rfl : zs = [] := List.eq_nil_of_length_eq_zero hn
    cases h0
    exact Row.nil
  · cases hv
    refine ⟨hn, hc, fun _ => ⟨g, 0, cur, rfl, hb, hg, by omega, fun i z hz => ?_⟩⟩
    have hi := lt_of_at hz
    have h1 : (cur.toList.take (zs.length * 1))[i]? = some (Value.string z) := by rw [ht, List.getElem?_map, hz]; rfl
    rw [List.getElem?_take, if_pos (by omega)] at h1
    rw [Nat.zero_add]
    simpa using h1
/-- what is there is written over by itself -/
theorem Row.same {D : Nat → Prop} {w : World} {g off cap i : Nat} {zs : List ByteArray} {z : ByteArray} (h : Row D w (some ⟨g, off, none⟩) cap zs) (hz : zs[i]? = some z) : Row D (w.setCell ⟨g, off + i, none⟩ (.string z)) (some ⟨g, off, none⟩) cap zs ∧ D g := by
  have hi := lt_of_at hz
  have h0 := h.1
  obtain ⟨g', off', cur, e, hD, hg, hs, hc⟩ := h.2.2 (by omega)
  cases e
  refine ⟨⟨h.1, h.2.1, fun _ => ⟨g, off, cur.set! (off + i) (.string z), rfl, hD, block_setCell hg, by simpa using hs, fun j y hj => ?_⟩⟩, hD⟩
  by_cases e : j = i
  · subst e
    rw [hz] at hj
    cases hj
    have : off + j < cur.size := by omega
    simp [this]
  · have := hc j y hj
    rw [Array.set!_eq_setIfInBounds, Array.getElem?_setIfInBounds_ne (by omega)]
    exact this
section
variable {D : Nat → Prop} {w : World} {e b : Nat} {s : Stt}
/-- a row of texts in a block of its own, told by its cells -/
def Cells (w : World) (ad : Option Addr) (ga : Nat) (zs : List ByteArray) : Prop := ∀ j k, zs[j]? = some k → ad = some ⟨ga, 0, none⟩ ∧ w.cell? ⟨ga, j, none⟩ = some (.string k)
theorem Cells.of {W w' : World} {ad : Option Addr} {cap ge : Nat} {zs : List ByteArray} (h : w'.ownsRow W.heap.size 9 1 (.slice ad zs.length cap) zs.length (zs.map Value.string)) (hge : ge < W.heap.size) (hs : W.heap.size ≤ w'.heap.size) : ∃ ga, Cells w' ad ga zs ∧ ga < w'.heap.size ∧ (ga = ge ∨ W.heap.size ≤ ga) := by
  cases zs with
  | nil => exact ⟨ge, fun j k hj => by simp at hj, by omega, .inl rfl⟩
  | cons z zs =>
    obtain ⟨g, cur, rfl, hb, hg, hc⟩ := Ls.ownsRow_block h (by simp)
    exact ⟨g, fun j k hj => ⟨rfl, hc j _ (by rw [List.getElem?_map, hj]; rfl)⟩, lt_of_block hg, .inr hb⟩
theorem Cells.keeps {E : Nat → Prop} {W w' : World} {ad : Option Addr} {ga : Nat} {zs : List ByteArray} (h : Cells W ad ga zs) (hk : Keeps E W w') (hg : ga < W.heap.size) (hE : ¬ E ga) : Cells w' ad ga zs :=
  fun j k hj => ⟨(h j k hj).1, by rw [World.cell?_of_block (hk.block ga hg hE)]; exact (h j k hj).2⟩
set_option maxRecDepth 100000 in
set_option maxHeartbeats 1000000 in
theorem copiesM (H : AM e b s D w) {i : Nat} (hi : i < 3) :
    Calls Try.prog 50 #[.pointer (some ⟨e, 0, none⟩), .int .i64 (i : Nat)] w fun ee w' => ∃ ad cap, ee = .returned (.slice ad (qs s i).length cap) ∧ Row (w.heap.size ≤ ·) w' ad cap (qs s i) ∧ Below w.heap.size w w' := by
  have HQs : Hid (∀ x ∈ qs s i, x.size ≤ 1000) := fun x hx => EN.size H hi hx
  have hql : (qs s i).length ≤ 20000 := EN.lens H hi
  obtain ⟨pr, cr, hall⟩ := EN.all H (by omega) hi
  obtain ⟨-, hall⟩ := hall w (Below.refl _ w)
  have heo := (EN.cells H).2.2.2.1
  clear H
  generalize qs s i = R at *
  go_enter Try.func50, Try.ntmps50
  go_wp2_with (go_at_call 43; refine Calls.mono hall ?_; clear hall; rintro ee w3 ⟨ad, cap, rfl, hown3, hb3⟩; have HR3 : Hid (Row (w.heap.size ≤ ·) w3 ad cap R) := row_owned hown3; have HB3 : Hid (Below w.heap.size w w3) := hb3; clear hown3 hb3)
  go_loopw [16] (fun i wr => ∃ k : Nat, k ≤ R.length ∧ i = .int .i64 k ∧ Row (w.heap.size ≤ ·) wr ad cap R ∧ Below w.heap.size w wr) (fun i _ => R.length - (intOf i).toNat)
  case atStart => exact ⟨0, Nat.zero_le _, rfl, HR3.out, HB3.out⟩
  case round =>
    obtain ⟨k, hk, rfl, hr, hb⟩ := hrel
    have HR : Hid (Row (w.heap.size ≤ ·) wr ad cap R) := hr
    have HB : Hid (Below w.heap.size w wr) := hb
    rcases Nat.lt_or_ge k R.length with hlt | hge
    · obtain ⟨key, hkey⟩ : ∃ key, R[k]? = some key := ⟨_, List.getElem?_eq_getElem hlt⟩
      obtain ⟨g, off, rfl, hg, ck, fk⟩ := hr.at hkey
      have hks : key.size ≤ 1000 := HQs.out key (List.mem_of_getElem? hkey)
      have HKy : Hid (R[k]? = some key) := hkey
      clear hr hb hkey hg HR3
      go_wp2_with (go_at_call 52; refine (Ix.clone_any key hks _).mono ?_; rintro ee w5 ⟨rfl, hb5⟩; have h5 := HR.out.below hb5; have HS : Hid _ := Row.same h5 HKy.out; obtain ⟨g', off', e', -, ck5, fk5⟩ := h5.at HKy.out; cases e'; have HB5 : Hid (Below w.heap.size w w5) := (below_trans' HB.out hb5); clear hb5 h5 ck fk)
      go_roundw
      case rel => exact ⟨k + 1, hlt, by go_num, HS.out.1, ((Keeps.of_below (D := fun x => w.heap.size ≤ x) HB5.out).setCell (p := ⟨g, off + k, none⟩) HS.out.2 _).below (Nat.le_refl _) (fun _ h => h)⟩
      case measure => simp [intOf]; omega
    · clear hr hb
      go_wp2_with fail
      go_ret
      exact ⟨ad, cap, rfl, HR.out, HB.out⟩
theorem ghostsEM (H : AM e b s D w) (_ : b ≤ 100000) :
    Calls Try.prog 20 #[.pointer (some ⟨e, 0, none⟩)] w fun ee w' => ∃ ad cap, ee = .returned (.slice ad (A.ghosts s).length cap) ∧ Row (w.heap.size ≤ ·) w' ad cap (A.ghosts s) ∧ Below w.heap.size w w' := by
  have HE : Hid (AM e b s D w) := H
  have hc : Calls Try.prog 50 #[.pointer (some ⟨e, 0, none⟩), .int .i64 2] w fun ee w' => ∃ ad cap, ee = .returned (.slice ad (A.ghosts s).length cap) ∧ Row (w.heap.size ≤ ·) w' ad cap (A.ghosts s) ∧ Below w.heap.size w w' := copiesM H (i := 2) (by omega)
  clear H
  go_enter Try.func20, Try.ntmps20
  go_wp2_with (first
    | (go_at_call 41; refine (blank_any HE.out).mono ?_; rintro ee w1 ⟨rfl, rfl⟩)
    | (go_at_call 50; refine Calls.mono hc ?_; clear hc; rintro ee w2 ⟨ad, cap, rfl, hr, hb2⟩))
  go_ret
  exact ⟨ad, cap, rfl, hr, hb2⟩
theorem hot_more {p : ByteArray → Bool} {R : List ByteArray} {j : Nat} {k : ByteArray} (h : R[j]? = some k) : (R.take (j + 1)).filter p = (R.take j).filter p ++ (if p k then [k] else []) := by
  rw [List.take_add_one, h]
  simp [List.filter_cons]
set_option maxRecDepth 100000 in
set_option maxHeartbeats 2000000 in
theorem keysEM (H : AM e b s D w) (_ : b ≤ 100000) :
    Calls Try.prog 18 #[.pointer (some ⟨e, 0, none⟩)] w fun ee w' => ∃ ad cap, ee = .returned (.slice ad (A.keys s).length cap) ∧ Row (w.heap.size ≤ ·) w' ad cap (A.keys s) ∧ Below w.heap.size w w' := by
  have HE : Hid (AM e b s D w) := H
  have hc : Calls Try.prog 50 #[.pointer (some ⟨e, 0, none⟩), .int .i64 1] w fun ee w' => ∃ ad cap, ee = .returned (.slice ad s.b1.length cap) ∧ Row (w.heap.size ≤ ·) w' ad cap s.b1 ∧ Below w.heap.size w w' := copiesM H (i := 1) (by omega)
  have HQs : Hid (∀ x ∈ s.t1, x.size ≤ 1000) := fun x hx => H.size (.inl hx)
  have hql : s.t1.length ≤ 20000 := EN.lens H (i := 0) (by omega)
  have hqb : s.b1.length ≤ 20000 := EN.lens H (i := 1) (by omega)
  obtain ⟨pr, -, hall⟩ := EN.all H (by omega) (i := 0) (by omega)
  have HAll : Hid _ := hall
  have HEo : Hid (e < w.heap.size) := (EN.cells H).2.2.2.1
  clear H hall
  go_enter Try.func18, Try.ntmps18
  go_wp2_with (first
    | (go_at_call 41; refine (blank_any HE.out).mono ?_; rintro ee w1 ⟨rfl, rfl⟩)
    | (go_at_call 50; refine Calls.mono hc ?_; clear hc; rintro ee w2 ⟨ad, cap, rfl, hr2, hb2⟩; have HR2 : Hid (Row (w1.heap.size ≤ ·) w2 ad cap s.b1) := hr2; have HB2 : Hid (Below w1.heap.size w1 w2) := hb2; obtain ⟨cr2, hall2⟩ := HAll.out w2 hb2; have HA2 : Hid _ := hall2; have heo2 := Nat.lt_of_lt_of_le HEo.out hb2.size; clear hr2 hb2 hall2)
    | (go_at_call 43; refine Calls.mono HA2.out ?_; rintro ee w3 ⟨a3, c3, rfl, hown3, hb3⟩; obtain ⟨ga, hc3, hg3, hg4⟩ := Cells.of (zs := s.t1) hown3 heo2 hb3.size; have HC3 : Hid (Cells w3 a3 ga s.t1) := hc3; have HB3 : Hid (Below w1.heap.size w1 w3) := (below_trans' HB2.out hb3); have HR3 : Hid (Row (fun x => w1.heap.size ≤ x ∧ x ≠ ga) w3 ad cap s.b1) := ((HR2.out.narrow.below hb3).wide (fun x _ hx => ⟨hx.1, fun e => by have h1 := HEo.out; have h2 := hx.1; have h3 := hx.2; rcases hg4 with h | h <;> omega⟩)); have HGa : Hid (ga < w3.heap.size) := hg3; clear hown3 hb3 hc3 hg3 hg4))
  have hl0 : (qs s 0).length = s.t1.length := rfl
  rw [hl0]
  clear hl0
  go_loopw [3, 17] (fun v i wx => ∃ (j : Nat) (ad4 : Option Addr) (cp4 : Nat), j ≤ s.t1.length ∧ i = .int .i64 j ∧ v = .slice ad4 (s.b1 ++ (s.t1.take j).filter (A.isHot s.b1 s.t2)).length cp4 ∧ Row (fun x => w1.heap.size ≤ x ∧ x ≠ ga) wx ad4 cp4 (s.b1 ++ (s.t1.take j).filter (A.isHot s.b1 s.t2)) ∧ Cells wx a3 ga s.t1 ∧ Below w1.heap.size w1 wx ∧ w3.heap.size ≤ wx.heap.size) (fun _ i _ => s.t1.length - (intOf i).toNat)
  case atStart => exact ⟨0, ad, cap, Nat.zero_le _, rfl, by simp, by simpa using HR3.out, HC3.out, HB3.out, Nat.le_refl _⟩
  case round =>
    obtain ⟨j, ad4, cp4, hj, rfl, rfl, hr4, hc4, hb4, hs4⟩ := hrel
    have HR4 : Hid (Row (fun x => w1.heap.size ≤ x ∧ x ≠ ga) wr ad4 cp4 (s.b1 ++ (s.t1.take j).filter (A.isHot s.b1 s.t2))) := hr4
    have HC4 : Hid (Cells wr a3 ga s.t1) := hc4
    have HB4 : Hid (Below w1.heap.size w1 wr) := hb4
    have hTj : (s.b1 ++ (s.t1.take j).filter (A.isHot s.b1 s.t2)).length ≤ 999998 := by
      have := List.length_filter_le (A.isHot s.b1 s.t2) (s.t1.take j)
      rw [List.length_append]
      simp at this
      omega
    clear hr4 HC3 HB3 HR3 hb4
    rcases Nat.lt_or_ge j s.t1.length with hlj | hgj
    · obtain ⟨key, hkey⟩ : ∃ key, s.t1[j]? = some key := ⟨_, List.getElem?_eq_getElem hlj⟩
      obtain ⟨rfl, ck⟩ := hc4 j key hkey
      have hks : key.size ≤ 1000 := HQs.out key (List.mem_of_getElem? hkey)
      have hT := hot_more (p := A.isHot s.b1 s.t2) hkey
      obtain ⟨v, hv, hs⟩ := spotA (AM.below HE.out HB4.out) key hks
      clear hc4 hkey
      cases hh : A.isHot s.b1 s.t2 key with
      | true =>
        have hho := hotA hv hh
        have HT : Hid (s.b1 ++ (s.t1.take (j + 1)).filter (A.isHot s.b1 s.t2) = (s.b1 ++ (s.t1.take j).filter (A.isHot s.b1 s.t2)) ++ [key]) := by
          show s.b1 ++ (s.t1.take (j + 1)).filter (A.isHot s.b1 s.t2) = (s.b1 ++ (s.t1.take j).filter (A.isHot s.b1 s.t2)) ++ [key]
          rw [hT, hh, if_pos rfl, List.append_assoc]
        clear hv hh hT
        generalize s.b1 ++ (s.t1.take j).filter (A.isHot s.b1 s.t2) = U at *
        go_wp2_with (first
          | (go_at_call 44; refine Calls.mono hs ?_; clear hs; rintro ee w41 ⟨rfl, b41⟩)
          | (go_at_call 51; refine Calls.mono (hho _) ?_; clear hho; rintro ee w42 ⟨rfl, b42⟩; have b4 := below_trans b41 b42)
          | (go_at_call 52; refine (Ix.clone_any key hks _).mono ?_; rintro ee w5 ⟨rfl, hb5'⟩; have hb5 := below_trans b4 hb5'; have HR5 : Hid (Row (fun x => w1.heap.size ≤ x ∧ x ≠ ga) w5 ad4 cp4 U) := (HR4.out.below hb5); have HC5 : Hid (Cells w5 (some ⟨ga, 0, none⟩) ga s.t1) := (HC4.out.keeps (E := fun _ => False) (.of_below hb5) (Nat.lt_of_lt_of_le HGa.out hs4) (fun h => h)); have HB5 : Hid (Below w1.heap.size w1 w5) := (below_trans' HB4.out hb5); have hs5 : w3.heap.size ≤ w5.heap.size := (Nat.le_trans hs4 hb5.size); clear hb5 hb5')
          | (at_builtin; go_must (refine wpList_append_row (ks := [key]) rfl _ _ rfl rfl (HR5.out.below ((Below.refl _ _).alloc (Nat.le_refl _) _)) rfl (src_one _ key) (by simp; omega) ?_); intro a6 n6 w6 hr6 hk6; have HB6 : Hid (Below w1.heap.size w1 w6) := ((((Keeps.of_below (D := fun x => w1.heap.size ≤ x) HB5.out).alloc _).trans (hk6.mono (fun _ _ h => h.1))).below (Nat.le_refl _) (fun _ h => h)); have hs6 : w3.heap.size ≤ w6.heap.size := (Nat.le_trans hs5 (Nat.le_trans (by simp) hk6.size)); have HR6 : Hid (Row (fun x => w1.heap.size ≤ x ∧ x ≠ ga) w6 a6 n6 (U ++ [key])) := (hr6.wide (fun x _ h => by rcases h with h | h; exact h; exact ⟨Nat.le_trans HB5.out.size (Nat.le_trans (by simp) h), fun e => by have := HGa.out; simp at h; omega⟩)); have HC6 : Hid (Cells w6 (some ⟨ga, 0, none⟩) ga s.t1) := ((HC5.out.keeps (E := fun _ => False) ((Keeps.refl _ _).alloc _) (Nat.lt_of_lt_of_le HGa.out hs5) (fun h => h)).keeps hk6 (Nat.lt_of_lt_of_le (Nat.lt_of_lt_of_le HGa.out hs5) (by simp)) (fun h => h.2 rfl)); clear hr6 hk6))
        go_roundw
        case rel => exact ⟨j + 1, a6, n6, hlj, by go_num, by rw [HT.out]; simp, by rw [HT.out]; exact HR6.out, HC6.out, HB6.out, hs6⟩
        case measure => simp [intOf]; omega
      | false =>
        have hho := hotA hv hh
        have HT : Hid (s.b1 ++ (s.t1.take (j + 1)).filter (A.isHot s.b1 s.t2) = s.b1 ++ (s.t1.take j).filter (A.isHot s.b1 s.t2)) := by
          show s.b1 ++ (s.t1.take (j + 1)).filter (A.isHot s.b1 s.t2) = s.b1 ++ (s.t1.take j).filter (A.isHot s.b1 s.t2)
          rw [hT, hh]
          simp
        clear hv hh hT
        generalize s.b1 ++ (s.t1.take j).filter (A.isHot s.b1 s.t2) = U at *
        go_wp2_with (first
          | (go_at_call 44; refine Calls.mono hs ?_; clear hs; rintro ee w41 ⟨rfl, b41⟩)
          | (go_at_call 51; refine Calls.mono (hho _) ?_; clear hho; rintro ee w42 ⟨rfl, b42⟩; have b4 := below_trans b41 b42))
        go_roundw
        case rel => exact ⟨j + 1, ad4, cp4, hlj, by go_num, by rw [HT.out], by rw [HT.out]; exact HR4.out.below b4, HC4.out.keeps (E := fun _ => False) (.of_below b4) (Nat.lt_of_lt_of_le HGa.out hs4) (fun h => h), below_trans' HB4.out b4, Nat.le_trans hs4 b4.size⟩
        case measure => simp [intOf]; omega
    · have hj' : j = s.t1.length := by omega
      subst hj'
      rw [List.take_length] at *
      clear hc4
      go_wp2_with fail
      go_ret
      exact ⟨ad4, cp4, rfl, HR4.out.wide (fun _ _ h => h.1), HB4.out⟩
end
end Go.Proofs.Ytcbaalodhgkgmaa
