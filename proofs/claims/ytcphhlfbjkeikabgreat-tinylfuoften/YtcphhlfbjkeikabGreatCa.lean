/- Of an engine: Keys, Ghosts. -/
import Derived.Test.YtcphhlfbjkeikabGreatEo
namespace Go.Proofs.YtcphhlfbjkeikabGreat
open Go.RowKit

/-- the keys of the first rows -/
def keysN (Q : Nat → List ByteArray) (n : Nat) : List ByteArray := (List.range n).flatMap Q
theorem keysN_more (Q : Nat → List ByteArray) (n : Nat) : keysN Q (n + 1) = keysN Q n ++ Q n := by simp [keysN, List.range_succ]
/-- a row of texts in a block of its own, told by its cells -/
def Cells (w : World) (ad : Option Addr) (ga : Nat) (zs : List ByteArray) : Prop := ∀ j k, zs[j]? = some k → ad = some ⟨ga, 0, none⟩ ∧ w.cell? ⟨ga, j, none⟩ = some (.string k)
theorem Cells.of {W w' : World} {ad : Option Addr} {cap ge : Nat} {zs : List ByteArray} (h : w'.ownsRow W.heap.size 9 1 (.slice ad zs.length cap) zs.length (zs.map Value.string)) (hge : ge < W.heap.size) (hs : W.heap.size ≤ w'.heap.size) : ∃ ga, Cells w' ad ga zs ∧ ga < w'.heap.size ∧ (ga = ge ∨ W.heap.size ≤ ga) := by
  cases zs with
  | nil => exact ⟨ge, fun j k hj => by simp at hj, by omega, .inl rfl⟩
  | cons z zs =>
    obtain ⟨g, cur, rfl, hb, hg, hc⟩ := Ls.ownsRow_block h (by simp)
    exact ⟨g, fun j k hj => ⟨rfl, hc j _ (by rw [List.getElem?_map, hj]; rfl)⟩, lt_of_block hg, .inr hb⟩
theorem Cells.keeps {E : Nat → Prop} {W w' : World} {ad : Option Addr} {ga : Nat} {zs : List ByteArray} (h : Cells W ad ga zs) (hk : Keeps E W w') (hg : ga < W.heap.size) (hE : ¬ E ga) : Cells w' ad ga zs :=
  fun j k hj => ⟨(h j k hj).1, by rw [World.cell?_of_block (hk.block ga hg hE)]; exact (h j k hj).2⟩
section
variable {D : Nat → Prop} {w : World} {e : Nat} {s : Stt} {m : ByteArray → Option Ix.Sp} {z : Dk}
theorem keysN_all (s : Stt) : keysN (qs s) 3 = A.keys s := by simp [keysN, List.range_succ, qs, A.keys]
theorem keysN_len (H : MA e z s m D w) : ∀ n, n ≤ 3 → (keysN (qs s) n).length ≤ n * 20000 := by
  intro n
  induction n with
  | zero => intro _; simp [keysN]
  | succ n ih =>
    intro hn
    have h1 := ih (by omega)
    have h2 := H.lens (i := n) (by omega)
    rw [keysN_more, List.length_append]
    omega
theorem make_row (n : Nat) (hn : n ≤ 1000000) : ∃ cs : Array Value, cs.size = n ∧ ∀ W : World, (Instr.makeSlice 22 (.int .i64 0) (.int .i64 (n : Nat))).run Tryz.prog W = .ok (.slice (some ⟨W.heap.size, 0, none⟩) 0 n) (W.alloc (.cells cs 9)) := by
  obtain ⟨i0, hi, hz0, hz1, hz2⟩ := info_string
  refine ⟨madeCells (Value.string ByteArray.empty).cells (n * 1), by simp [madeCells], fun W => ?_⟩
  have h := run_make (P := Tryz.prog) W 22 9 i0 _ Tryz.underlying22 hi hz0 .i64 .i64 0 (n : Int) (by omega) (by omega) (by rw [hz2]; omega) (by omega)
  rw [hz1] at h
  simpa using h
theorem index_0 (a0 a1 a2 : Option Addr) (W : World) : (Instr.index 51 (.agg #[.pointer a0, .pointer a1, .pointer a2]) (.int .i64 0)).run Tryz.prog W = .ok (.pointer a0) W := by kernel_rfl
theorem index_1 (a0 a1 a2 : Option Addr) (W : World) : (Instr.index 51 (.agg #[.pointer a0, .pointer a1, .pointer a2]) (.int .i64 1)).run Tryz.prog W = .ok (.pointer a1) W := by kernel_rfl
theorem index_2 (a0 a1 a2 : Option Addr) (W : World) : (Instr.index 51 (.agg #[.pointer a0, .pointer a1, .pointer a2]) (.int .i64 2)).run Tryz.prog W = .ok (.pointer a2) W := by kernel_rfl
set_option maxRecDepth 100000 in
set_option maxHeartbeats 1000000 in
theorem keysEM (H : MA e z s m D w) (ho : Single s) (hn : (A.keys s).length ≤ 60000) :
    Calls Tryz.prog 14 #[.pointer (some ⟨e, 0, none⟩)] w fun ee w' => ∃ ad cap, ee = .returned (.slice ad (A.keys s).length cap) ∧ Row (w.heap.size ≤ ·) w' ad cap (A.keys s) ∧ Below w.heap.size w w' := by
  have HE : Hid (MA e z s m D w) := H
  have HEo : Hid (e < w.heap.size) := H.cells.2.2.2.1
  have heo := H.cells.2.2.2.1
  have hln := lenM H ho
  obtain ⟨r0, c1, -⟩ := H.all (by omega) (i := 0) (by omega)
  obtain ⟨r1, c2, -⟩ := H.all (by omega) (i := 1) (by omega)
  obtain ⟨r2, c3, -⟩ := H.all (by omega) (i := 2) (by omega)
  have HC : Hid (w.cell? ⟨e, 1 + 0, none⟩ = some (.pointer (some ⟨r0, 0, none⟩)) ∧ w.cell? ⟨e, 1 + 1, none⟩ = some (.pointer (some ⟨r1, 0, none⟩)) ∧ w.cell? ⟨e, 1 + 2, none⟩ = some (.pointer (some ⟨r2, 0, none⟩))) := ⟨c1, c2, c3⟩
  simp only [Nat.reduceAdd] at c1 c2 c3
  obtain ⟨K, hK⟩ : ∃ K, K = A.keys s := ⟨_, rfl⟩
  have HK : Hid (K = keysN (qs s) 3) := hK.trans (keysN_all s).symm
  rw [← hK] at hln hn ⊢
  obtain ⟨cs, hcs, hmk⟩ := make_row K.length (by omega)
  have HCs : Hid (cs.size = K.length) := hcs
  clear H ho hK hcs
  go_enter Tryz.func14, Tryz.ntmps14
  go_wp2_with (first
    | (go_at_call 34; refine (blank_any HE.out).mono ?_; rintro ee w1 ⟨rfl, rfl⟩)
    | (go_at_call 37; refine Calls.mono hln ?_; clear hln; rintro ee w2 ⟨rfl, rfl⟩))
  go_loopw [3, 17] (fun v i wr => ∃ (k : Nat) (ad : Option Addr) (cp : Nat), k ≤ 3 ∧ i = .int .i64 k ∧ v = .slice ad (keysN (qs s) k).length cp ∧ Row (w2.heap.size ≤ ·) wr ad cp (keysN (qs s) k) ∧ Below w2.heap.size w2 wr) (fun _ i _ => 3 - (intOf i).toNat)
  case atStart => exact ⟨0, _, _, Nat.zero_le _, rfl, rfl, ⟨Nat.zero_le _, by unfold maxLen; omega, fun _ => ⟨_, 0, cs, rfl, Nat.le_refl _, heap_alloc_new _ _, by rw [HCs.out]; omega, fun i z hz => by simp [keysN] at hz⟩⟩, (Below.refl _ _).alloc (Nat.le_refl _) _⟩
  case round =>
    obtain ⟨k, ad, cp, hk, rfl, rfl, hrow, hB⟩ := hrel
    have HRow : Hid (Row (w2.heap.size ≤ ·) wr ad cp (keysN (qs s) k)) := hrow
    have HB : Hid (Below w2.heap.size w2 wr) := hB
    have hTl : (keysN (qs s) k).length ≤ 60000 := by have := keysN_len HE.out k hk; omega
    rcases Nat.lt_or_ge k 3 with hlt | hge
    · obtain ⟨pr, hpr, hall⟩ := HE.out.all (by omega) hlt
      obtain ⟨cr, hall⟩ := hall wr hB
      have HAll : Hid _ := hall
      have heo := (HE.out.below hB).cells.2.2.2.1
      have hI : ∀ W : World, (Instr.index 51 (.agg #[.pointer (some ⟨r0, 0, none⟩), .pointer (some ⟨r1, 0, none⟩), .pointer (some ⟨r2, 0, none⟩)]) (.int .i64 (k : Nat))).run Tryz.prog W = .ok (.pointer (some ⟨pr, 0, none⟩)) W := fun W => by
        have h3 : k = 0 ∨ k = 1 ∨ k = 2 := by omega
        obtain ⟨h0, h1, h2⟩ := HC.out
        rcases h3 with e1 | e1 | e1 <;> subst e1
        · rw [h0] at hpr; cases hpr; exact index_0 _ _ _ W
        · rw [h1] at hpr; cases hpr; exact index_1 _ _ _ W
        · rw [h2] at hpr; cases hpr; exact index_2 _ _ _ W
      have HM : Hid (keysN (qs s) (k + 1) = keysN (qs s) k ++ qs s k) := keysN_more _ _
      have HQs : Hid (∀ x ∈ qs s k, x.size ≤ 1000) := fun x hx => HE.out.size hlt hx
      have hql : (qs s k).length ≤ 20000 := HE.out.lens hlt
      clear hrow hB hall hpr cr
      generalize keysN (qs s) k = T at *
      generalize qs s k = R at *
      go_wp2_with (go_at_call 38; refine Calls.mono HAll.out ?_; rintro ee w3 ⟨a3, c3, rfl, hown3, hb3⟩; obtain ⟨ga, hc3, hg3, hg4⟩ := Cells.of hown3 heo hb3.size; have HC3 : Hid (Cells w3 a3 ga R) := hc3; have HB3 : Hid (Below w2.heap.size w2 w3) := (below_trans' HB.out hb3); have HR3 : Hid (Row (fun x => w2.heap.size ≤ x ∧ x ≠ ga) w3 ad cp T) := ((HRow.out.narrow.below hb3).wide (fun x _ hx => ⟨hx.1, fun e => by have h1 := HEo.out; have h2 := hx.1; have h3 := hx.2; rcases hg4 with h | h <;> omega⟩)); have HGa : Hid (ga < w3.heap.size) := hg3; clear hown3 hb3 hc3 hg3 hg4)
      go_loopw [3, 23] (fun v i wx => ∃ (j : Nat) (ad4 : Option Addr) (cp4 : Nat), j ≤ R.length ∧ i = .int .i64 j ∧ v = .slice ad4 (T ++ R.take j).length cp4 ∧ Row (fun x => w2.heap.size ≤ x ∧ x ≠ ga) wx ad4 cp4 (T ++ R.take j) ∧ Cells wx a3 ga R ∧ Below w2.heap.size w2 wx ∧ w3.heap.size ≤ wx.heap.size) (fun _ i _ => R.length - (intOf i).toNat)
      case atStart => exact ⟨0, ad, cp, Nat.zero_le _, rfl, by simp, by simpa using HR3.out, HC3.out, HB3.out, Nat.le_refl _⟩
      case round =>
        obtain ⟨j, ad4, cp4, hj, rfl, rfl, hr4, hc4, hb4, hs4⟩ := hrel
        have HR4 : Hid (Row (fun x => w2.heap.size ≤ x ∧ x ≠ ga) wr ad4 cp4 (T ++ R.take j)) := hr4
        have HC4 : Hid (Cells wr a3 ga R) := hc4
        have HB4 : Hid (Below w2.heap.size w2 wr) := hb4
        have hTj : (T ++ R.take j).length ≤ 999999 := by simp; omega
        clear hr4 HC3 HB3 HR3 hb4
        rcases Nat.lt_or_ge j R.length with hlj | hgj
        · obtain ⟨key, hkey⟩ : ∃ key, R[j]? = some key := ⟨_, List.getElem?_eq_getElem hlj⟩
          obtain ⟨rfl, ck⟩ := hc4 j key hkey
          have hks : key.size ≤ 1000 := HQs.out key (List.mem_of_getElem? hkey)
          have HT : Hid (T ++ R.take (j + 1) = T ++ R.take j ++ [key]) := by
            show T ++ R.take (j + 1) = T ++ R.take j ++ [key]
            rw [List.take_add_one, hkey]
            simp
          clear hc4 hkey
          generalize T ++ R.take j = U at *
          go_wp2_with (first
            | (go_at_call 39; refine (Ix.clone_any key hks _).mono ?_; rintro ee w5 ⟨rfl, hb5⟩; have HR5 : Hid (Row (fun x => w2.heap.size ≤ x ∧ x ≠ ga) w5 ad4 cp4 U) := (HR4.out.below hb5); have HC5 : Hid (Cells w5 (some ⟨ga, 0, none⟩) ga R) := (HC4.out.keeps (E := fun _ => False) (.of_below hb5) (Nat.lt_of_lt_of_le HGa.out hs4) (fun h => h)); have HB5 : Hid (Below w2.heap.size w2 w5) := (below_trans' HB4.out hb5); have hs5 : w3.heap.size ≤ w5.heap.size := (Nat.le_trans hs4 hb5.size); clear hb5)
            | (at_builtin; go_must (refine wpList_append_row (ks := [key]) rfl _ _ rfl rfl (HR5.out.below ((Below.refl _ _).alloc (Nat.le_refl _) _)) rfl (src_one _ key) (by simp; omega) ?_); intro a6 n6 w6 hr6 hk6; have HB6 : Hid (Below w2.heap.size w2 w6) := ((((Keeps.of_below (D := fun x => w2.heap.size ≤ x) HB5.out).alloc _).trans (hk6.mono (fun _ _ h => h.1))).below (Nat.le_refl _) (fun _ h => h)); have hs6 : w3.heap.size ≤ w6.heap.size := (Nat.le_trans hs5 (Nat.le_trans (by simp) hk6.size)); have HR6 : Hid (Row (fun x => w2.heap.size ≤ x ∧ x ≠ ga) w6 a6 n6 (U ++ [key])) := (hr6.wide (fun x _ h => by rcases h with h | h; exact h; exact ⟨Nat.le_trans HB5.out.size (Nat.le_trans (by simp) h), fun e => by have := HGa.out; simp at h; omega⟩)); have HC6 : Hid (Cells w6 (some ⟨ga, 0, none⟩) ga R) := ((HC5.out.keeps (E := fun _ => False) ((Keeps.refl _ _).alloc _) (Nat.lt_of_lt_of_le HGa.out hs5) (fun h => h)).keeps hk6 (Nat.lt_of_lt_of_le (Nat.lt_of_lt_of_le HGa.out hs5) (by simp)) (fun h => h.2 rfl)); clear hr6 hk6))
          go_roundw
          case rel => exact ⟨j + 1, a6, n6, hlj, by go_num, by rw [HT.out]; simp, by rw [HT.out]; exact HR6.out, HC6.out, HB6.out, hs6⟩
          case measure => simp [intOf]; omega
        · have hj' : j = R.length := by omega
          subst hj'
          rw [List.take_length] at *
          clear hc4
          go_wp2_with fail
          go_roundw
          case rel => exact ⟨k + 1, ad4, cp4, hlt, by go_num, by rw [HM.out], by rw [HM.out]; exact HR4.out.wide (fun _ _ h => h.1), HB4.out⟩
          case measure => simp [intOf]; omega
    · have hk' : k = 3 := by omega
      subst hk'
      clear hrow hB
      rw [← HK.out] at *
      go_wp2_with fail
      go_ret
      exact ⟨ad, cp, rfl, HRow.out, HB.out⟩
theorem ghostsEM (_ : MA e z s m D w) :
    Calls Tryz.prog 15 #[.pointer (some ⟨e, 0, none⟩)] w fun ee w' => ee = .returned (.slice none 0 0) ∧ w' = w := by
  go_enter Tryz.func15, Tryz.ntmps15
  go_wp2
  go_ret
  exact ⟨rfl, rfl⟩
end
end Go.Proofs.YtcphhlfbjkeikabGreat
