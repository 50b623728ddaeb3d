/- An engine as the machine of chapter 10: admit. -/
import Derived.Test.YtfbdmoineahfgaaDoorEf
namespace Go.Proofs.YtfbdmoineahfgaaDoor
open Go.RowKit

theorem ints_new (W : World) (is : List Nat) (cs : Array Value) (hc : cs = (is.map (fun i : Nat => Value.int .i64 (i : Nat))).toArray) : IntsAt (W.alloc (.cells cs 3)) W.heap.size is := ints_at rfl is cs hc
theorem tot4 (Q : Nat → List ByteArray) (i j k l : Nat) : total Q [i, j, k, l] = (Q i).length + (Q j).length + (Q k).length + (Q l).length := by simp [total]; omega
theorem below1 (w : World) (o : Obj) : Below w.heap.size w (w.alloc o) := (Below.refl _ w).alloc (Nat.le_refl _) o
section
variable {D : Nat → Prop} {w w' : World} {e b : Nat} {s : Stt}
/-- how many keys some rows have, in whatever world that is as w was -/
def Counts (e : Nat) (s : Stt) (w : World) : Prop := ∀ (W : World) (g : Nat) (is : List Nat), Below w.heap.size w W → IntsAt W g is → (∀ i ∈ is, i < 4) → is.length ≤ 4 →
  Calls Tryd.prog 48 #[.pointer (some ⟨e, 0, none⟩), .slice (some ⟨g, 0, none⟩) is.length is.length] W fun ee w' => ee = .returned (.int .i64 (total (qs s) is : Nat)) ∧ w' = W
theorem AE.counts (H : AE e b s D w) (hb : b ≤ 900000) : Counts e s w := fun _ _ _ hW hg h1 h2 => count_any (EN.below H hW) hb hg h1 h2
theorem AE.room (H : AE e b s D w) : w.cell? ⟨e, 0, none⟩ = some (.int .i64 (s.c : Nat)) ∧ ∀ W : World, Below w.heap.size w W → W.cell? ⟨e, 0, none⟩ = some (.int .i64 (s.c : Nat)) :=
  ⟨(EN.cells H).1, fun _ hW => (EN.cells (EN.below H hW)).1⟩
/-- the oldest of a row leaves -/
theorem tail_qs {k : ByteArray} {r : List ByteArray} (ho : Single s) : (s.t1 = k :: r → ∀ i, i < 4 → qs { s with t1 := r } i = A.cut (qs s i) k) ∧ (s.b1 = k :: r → ∀ i, i < 4 → qs { s with b1 := r } i = A.cut (qs s i) k) ∧ (s.b2 = k :: r → ∀ i, i < 4 → qs { s with b2 := r } i = A.cut (qs s i) k) := by
  refine ⟨fun ht => ?_, fun ht => ?_, fun ht => ?_⟩
  · have hout := (ho.out (k := k)).1 (by rw [ht]; simp)
    have hc : A.cut (k :: r) k = r := A.cut_head (fun j => by have := ho j; rw [ht] at this; omega)
    refine four ?_ ?_ ?_ ?_
    · simp [qs, ht, hc]
    · simp [qs, A.cut_same hout.1]
    · simp [qs, A.cut_same hout.2.1]
    · simp [qs, A.cut_same hout.2.2]
  · have hout := (ho.out (k := k)).2.2.1 (by rw [ht]; simp)
    have hc : A.cut (k :: r) k = r := A.cut_head (fun j => by have := ho j; rw [ht] at this; omega)
    refine four ?_ ?_ ?_ ?_
    · simp [qs, A.cut_same hout.1]
    · simp [qs, A.cut_same hout.2.1]
    · simp [qs, ht, hc]
    · simp [qs, A.cut_same hout.2.2]
  · have hout := (ho.out (k := k)).2.2.2 (by rw [ht]; simp)
    have hc : A.cut (k :: r) k = r := A.cut_head (fun j => by have := ho j; rw [ht] at this; omega)
    refine four ?_ ?_ ?_ ?_
    · simp [qs, A.cut_same hout.1]
    · simp [qs, A.cut_same hout.2.1]
    · simp [qs, A.cut_same hout.2.2]
    · simp [qs, ht, hc]
theorem lit_end {w2 : World} (g : ByteArray) {s' : Stt} (h2 : AE e b s' D w2) (hk : Keeps D w w2) (hD : ∀ k, w.heap.size ≤ k → D k) :
    Beside (AE e b s') (some ⟨w2.heap.size, 0, none⟩) 1 [g] D (w2.alloc (.cells #[.string g] 9)) ∧ Keeps D w (w2.alloc (.cells #[.string g] 9)) :=
  ⟨⟨fun k => D k ∧ k < w2.heap.size, fun k h => ⟨h.1, by rw [World.size_alloc]; omega⟩, h2.narrow.below ((Below.refl _ w2).alloc (Nat.le_refl _) _), row_lit g ⟨hD _ hk.size, fun h => Nat.lt_irrefl _ h.2⟩⟩, hk.alloc _⟩
theorem Single.tail {k : ByteArray} {r : List ByteArray} (ho : Single s) : (s.b1 = k :: r → Single { s with b1 := r }) ∧ (s.b2 = k :: r → Single { s with b2 := r }) := by
  refine ⟨fun ht j => ?_, fun ht j => ?_⟩
  · have := ho j
    rw [ht, A.cnt_cons] at this
    show A.cnt j s.t1 + A.cnt j s.t2 + A.cnt j r + A.cnt j s.b2 ≤ 1
    omega
  · have := ho j
    rw [ht, A.cnt_cons] at this
    show A.cnt j s.t1 + A.cnt j s.t2 + A.cnt j s.b1 + A.cnt j r ≤ 1
    omega
set_option maxRecDepth 100000 in
set_option maxHeartbeats 4000000 in
theorem admit_t1 (H : AE e b s D w) (ho : Single s) (hD : ∀ k, w.heap.size ≤ k → D k) (hb : b ≤ 700000) {k : ByteArray} {r : List ByteArray} (ht : s.t1 = k :: r) (hl : s.t1.length = s.c) :
    Calls Tryd.prog 51 #[.pointer (some ⟨e, 0, none⟩)] w fun ee w' => ∃ ad cap, ee = .returned (.slice ad 1 cap) ∧ Beside (AE e b { s with t1 := r }) ad cap [k] D w' ∧ Keeps D w w' := by
  have HE : Hid (AE e b s D w) := H
  have HO : Hid (Single s) := ho
  have HD : Hid (∀ k, w.heap.size ≤ k → D k) := hD
  have HC : Hid (Counts e s w) := H.counts (by omega)
  have c0 := H.room.1
  have HR : Hid (∀ W : World, Below w.heap.size w W → W.cell? ⟨e, 0, none⟩ = some (.int .i64 (s.c : Nat))) := H.room.2
  have l0 : s.t1.length ≤ 700000 := Nat.le_trans (EN.lens H (i := 0) (by omega)) hb
  have l1 : s.t2.length ≤ 700000 := Nat.le_trans (EN.lens H (i := 1) (by omega)) hb
  have l2 : s.b1.length ≤ 700000 := Nat.le_trans (EN.lens H (i := 2) (by omega)) hb
  have l3 : s.b2.length ≤ 700000 := Nat.le_trans (EN.lens H (i := 3) (by omega)) hb
  have heo := (EN.cells H).2.2.2.1
  clear H ho hD
  go_enter Tryd.func51, Tryd.ntmps51
  go_wp2_with fail
  go_cut [3] from 4 (fun z wx => z = .bool true ∧ Below w.heap.size w wx)
  case first =>
    go_region_with (go_at_call 48; refine (HC.out _ _ [0] (by first | exact ((below1 w _)).drew | exact (below1 w _)) (by exact ints_new w [0] _ rfl) (by simp) (by simp)).mono ?_; rintro ee w1 ⟨rfl, rfl⟩; rw [tot1])
    all_goals (go_wp2_with fail; go_meet; case rel => exact ⟨by simp [qs]; try omega, ((below1 w _)).drew⟩)
  case rest =>
    obtain ⟨rfl, hb1⟩ := hcut
    go_wp2_with (go_at_call 57; refine (drop_any (i := 0) (EN.below HE.out hb1) (fun k h => HD.out k (Nat.le_trans hb1.size h)) (by omega) (by omega) (show qs s 0 = k :: r from ht)).mono ?_; rintro ee w2 ⟨rfl, h2, hk2⟩; have H2 : Hid (AE e b { s with t1 := r } D w2) := EN.congr h2 ((tail_qs HO.out).1 ht); have HK2 : Hid (Keeps D w w2) := (Keeps.of_below hb1).trans hk2; clear h2 hk2)
    go_ret
    exact ⟨_, _, rfl, lit_end k H2.out HK2.out HD.out⟩
set_option maxRecDepth 100000 in
set_option maxHeartbeats 4000000 in
theorem admit_b1 (H : AE e b s D w) (ho : Single s) (hD : ∀ k, w.heap.size ≤ k → D k) (hb : b ≤ 700000) (hlo : 1 ≤ s.c) {k : ByteArray} {r : List ByteArray} (ht : s.b1 = k :: r) (hl : s.t1.length < s.c) (hl2 : s.t1.length + s.b1.length = s.c) :
    Calls Tryd.prog 51 #[.pointer (some ⟨e, 0, none⟩)] w fun ee w' => ∃ ad cap, ee = .returned (.slice ad (rep { s with b1 := r } false).1.length cap) ∧ Beside (AE e (b + 1) (rep { s with b1 := r } false).2) ad cap (rep { s with b1 := r } false).1 D w' ∧ Keeps D w w' := by
  have HE : Hid (AE e b s D w) := H
  have HO : Hid (Single s) := ho
  have HD : Hid (∀ k, w.heap.size ≤ k → D k) := hD
  have HC : Hid (Counts e s w) := H.counts (by omega)
  have c0 := H.room.1
  have HR : Hid (∀ W : World, Below w.heap.size w W → W.cell? ⟨e, 0, none⟩ = some (.int .i64 (s.c : Nat))) := H.room.2
  have l0 : s.t1.length ≤ 700000 := Nat.le_trans (EN.lens H (i := 0) (by omega)) hb
  have l1 : s.t2.length ≤ 700000 := Nat.le_trans (EN.lens H (i := 1) (by omega)) hb
  have l2 : s.b1.length ≤ 700000 := Nat.le_trans (EN.lens H (i := 2) (by omega)) hb
  have l3 : s.b2.length ≤ 700000 := Nat.le_trans (EN.lens H (i := 3) (by omega)) hb
  have heo := (EN.cells H).2.2.2.1
  clear H ho hD
  go_enter Tryd.func51, Tryd.ntmps51
  go_wp2_with fail
  go_cut [3] from 4 (fun z wx => z = .bool false ∧ Below w.heap.size w wx)
  case first =>
    go_region_with (go_at_call 48; refine (HC.out _ _ [0] (by first | exact ((below1 w _)).drew | exact (below1 w _)) (by exact ints_new w [0] _ rfl) (by simp) (by simp)).mono ?_; rintro ee w1 ⟨rfl, rfl⟩; rw [tot1])
    all_goals (go_wp2_with fail; go_meet; case rel => exact ⟨by simp [qs]; try omega, ((below1 w _)).drew⟩)
  case rest =>
    obtain ⟨rfl, hb1⟩ := hcut
    have c1 := HR.out _ hb1
    have heo1 : e < wc.heap.size := Nat.lt_of_lt_of_le heo hb1.size
    clear c0
    go_wp2_with fail
    go_cut [15] from 16 (fun z wx => z = .bool true ∧ Below w.heap.size w wx)
    case first =>
      go_region_with (go_at_call 48; refine (HC.out _ _ [0, 2] (by first | exact ((hb1.alloc hb1.size _)).drew | exact (hb1.alloc hb1.size _)) (by exact ints_new wc [0, 2] _ rfl) (by simp) (by simp)).mono ?_; rintro ee w1 ⟨rfl, rfl⟩; rw [tot2])
      all_goals (go_wp2_with fail; go_meet; case rel => exact ⟨by simp [qs]; try omega, ((hb1.alloc hb1.size _)).drew⟩)
    case rest =>
      obtain ⟨rfl, hb2⟩ := hcut
      go_wp2_with (first
        | (go_at_call 57; refine (drop_any (i := 2) (EN.below HE.out hb2) (fun k h => HD.out k (Nat.le_trans hb2.size h)) (by omega) (by omega) (show qs s 2 = k :: r from ht)).mono ?_; rintro ee w2 ⟨rfl, h2, hk2⟩; have H2 : Hid (AE e b { s with b1 := r } D w2) := EN.congr h2 ((tail_qs HO.out).2.1 ht); have HK2 : Hid (Keeps D w w2) := (Keeps.of_below hb2).trans hk2; clear h2 hk2)
        | (go_at_call 55; refine (replace_any H2.out (HO.out.tail.1 ht) (fun k h => HD.out k (Nat.le_trans HK2.out.size h)) hb hlo false).mono ?_; rintro ee w3 ⟨ad, cap, rfl, h3, hk3⟩))
      go_ret
      exact ⟨_, _, rfl, h3, HK2.out.trans hk3⟩
set_option maxRecDepth 100000 in
set_option maxHeartbeats 4000000 in
theorem admit_b2 (H : AE e b s D w) (ho : Single s) (hD : ∀ k, w.heap.size ≤ k → D k) (hb : b ≤ 700000) (hlo : 1 ≤ s.c) (hc : s.c ≤ 1024) {k : ByteArray} {r : List ByteArray} (ht : s.b2 = k :: r) (hl : s.t1.length + s.b1.length < s.c) (hl2 : 2 * s.c ≤ s.t1.length + s.t2.length + s.b1.length + s.b2.length) :
    Calls Tryd.prog 51 #[.pointer (some ⟨e, 0, none⟩)] w fun ee w' => ∃ ad cap, ee = .returned (.slice ad (rep { s with b2 := r } false).1.length cap) ∧ Beside (AE e (b + 1) (rep { s with b2 := r } false).2) ad cap (rep { s with b2 := r } false).1 D w' ∧ Keeps D w w' := by
  have HE : Hid (AE e b s D w) := H
  have HO : Hid (Single s) := ho
  have HD : Hid (∀ k, w.heap.size ≤ k → D k) := hD
  have HC : Hid (Counts e s w) := H.counts (by omega)
  have c0 := H.room.1
  have HR : Hid (∀ W : World, Below w.heap.size w W → W.cell? ⟨e, 0, none⟩ = some (.int .i64 (s.c : Nat))) := H.room.2
  have l0 : s.t1.length ≤ 700000 := Nat.le_trans (EN.lens H (i := 0) (by omega)) hb
  have l1 : s.t2.length ≤ 700000 := Nat.le_trans (EN.lens H (i := 1) (by omega)) hb
  have l2 : s.b1.length ≤ 700000 := Nat.le_trans (EN.lens H (i := 2) (by omega)) hb
  have l3 : s.b2.length ≤ 700000 := Nat.le_trans (EN.lens H (i := 3) (by omega)) hb
  have heo := (EN.cells H).2.2.2.1
  clear H ho hD
  go_enter Tryd.func51, Tryd.ntmps51
  go_wp2_with fail
  go_cut [3] from 4 (fun z wx => z = .bool false ∧ Below w.heap.size w wx)
  case first =>
    go_region_with (go_at_call 48; refine (HC.out _ _ [0] (by first | exact ((below1 w _)).drew | exact (below1 w _)) (by exact ints_new w [0] _ rfl) (by simp) (by simp)).mono ?_; rintro ee w1 ⟨rfl, rfl⟩; rw [tot1])
    all_goals (go_wp2_with fail; go_meet; case rel => exact ⟨by simp [qs]; try omega, ((below1 w _)).drew⟩)
  case rest =>
    obtain ⟨rfl, hb1⟩ := hcut
    have c1 := HR.out _ hb1
    have heo1 : e < wc.heap.size := Nat.lt_of_lt_of_le heo hb1.size
    clear c0
    go_wp2_with fail
    go_cut [15] from 16 (fun z wx => z = .bool false ∧ Below w.heap.size w wx)
    case first =>
      go_region_with (go_at_call 48; refine (HC.out _ _ [0, 2] (by first | exact ((hb1.alloc hb1.size _)).drew | exact (hb1.alloc hb1.size _)) (by exact ints_new wc [0, 2] _ rfl) (by simp) (by simp)).mono ?_; rintro ee w1 ⟨rfl, rfl⟩; rw [tot2])
      all_goals (go_wp2_with fail; go_meet; case rel => exact ⟨by simp [qs]; try omega, ((hb1.alloc hb1.size _)).drew⟩)
    case rest =>
      obtain ⟨rfl, hb2⟩ := hcut
      have c2 := HR.out _ hb2
      have heo2 := Nat.lt_of_lt_of_le heo hb2.size
      clear c1 heo1
      have hwr : IntKind.i64.wrap (2 * (s.c : Int)) = 2 * (s.c : Int) := by simp [IntKind.wrap_i64]; omega
      go_wp2_with fail
      go_cut [26] from 27 (fun z wx => z = .bool true ∧ Below w.heap.size w wx)
      case first =>
        go_region_with (go_at_call 48; refine (HC.out _ _ [0, 1, 2, 3] (by first | exact ((hb2.alloc hb2.size _)).drew | exact (hb2.alloc hb2.size _)) (by exact ints_new wc [0, 1, 2, 3] _ rfl) (by simp) (by simp)).mono ?_; rintro ee w1 ⟨rfl, rfl⟩; rw [tot4])
        all_goals (go_wp2_with fail; go_meet; case rel => exact ⟨by simp [qs]; try omega, ((hb2.alloc hb2.size _)).drew⟩)
      case rest =>
        obtain ⟨rfl, hb3⟩ := hcut
        go_wp2_with (first
          | (go_at_call 57; refine (drop_any (i := 3) (EN.below HE.out hb3) (fun k h => HD.out k (Nat.le_trans hb3.size h)) (by omega) (by omega) (show qs s 3 = k :: r from ht)).mono ?_; rintro ee w2 ⟨rfl, h2, hk2⟩; have H2 : Hid (AE e b { s with b2 := r } D w2) := EN.congr h2 ((tail_qs HO.out).2.2 ht); have HK2 : Hid (Keeps D w w2) := (Keeps.of_below hb3).trans hk2; clear h2 hk2)
          | (go_at_call 55; refine (replace_any H2.out (HO.out.tail.2 ht) (fun k h => HD.out k (Nat.le_trans HK2.out.size h)) hb hlo false).mono ?_; rintro ee w3 ⟨ad, cap, rfl, h3, hk3⟩))
        go_ret
        exact ⟨_, _, rfl, h3, HK2.out.trans hk3⟩
set_option maxRecDepth 100000 in
set_option maxHeartbeats 4000000 in
theorem admit_no (H : AE e b s D w) (ho : Single s) (hD : ∀ k, w.heap.size ≤ k → D k) (hb : b ≤ 700000) (hlo : 1 ≤ s.c) (hc : s.c ≤ 1024) (hl : s.t1.length + s.b1.length < s.c) (hl2 : s.t1.length + s.t2.length + s.b1.length + s.b2.length < 2 * s.c) :
    Calls Tryd.prog 51 #[.pointer (some ⟨e, 0, none⟩)] w fun ee w' => ∃ ad cap, ee = .returned (.slice ad (rep s false).1.length cap) ∧ Beside (AE e (b + 1) (rep s false).2) ad cap (rep s false).1 D w' ∧ Keeps D w w' := by
  have HE : Hid (AE e b s D w) := H
  have HO : Hid (Single s) := ho
  have HD : Hid (∀ k, w.heap.size ≤ k → D k) := hD
  have HC : Hid (Counts e s w) := H.counts (by omega)
  have c0 := H.room.1
  have HR : Hid (∀ W : World, Below w.heap.size w W → W.cell? ⟨e, 0, none⟩ = some (.int .i64 (s.c : Nat))) := H.room.2
  have l0 : s.t1.length ≤ 700000 := Nat.le_trans (EN.lens H (i := 0) (by omega)) hb
  have l1 : s.t2.length ≤ 700000 := Nat.le_trans (EN.lens H (i := 1) (by omega)) hb
  have l2 : s.b1.length ≤ 700000 := Nat.le_trans (EN.lens H (i := 2) (by omega)) hb
  have l3 : s.b2.length ≤ 700000 := Nat.le_trans (EN.lens H (i := 3) (by omega)) hb
  have heo := (EN.cells H).2.2.2.1
  clear H ho hD
  go_enter Tryd.func51, Tryd.ntmps51
  go_wp2_with fail
  go_cut [3] from 4 (fun z wx => z = .bool false ∧ Below w.heap.size w wx)
  case first =>
    go_region_with (go_at_call 48; refine (HC.out _ _ [0] (by first | exact ((below1 w _)).drew | exact (below1 w _)) (by exact ints_new w [0] _ rfl) (by simp) (by simp)).mono ?_; rintro ee w1 ⟨rfl, rfl⟩; rw [tot1])
    all_goals (go_wp2_with fail; go_meet; case rel => exact ⟨by simp [qs]; try omega, ((below1 w _)).drew⟩)
  case rest =>
    obtain ⟨rfl, hb1⟩ := hcut
    have c1 := HR.out _ hb1
    have heo1 : e < wc.heap.size := Nat.lt_of_lt_of_le heo hb1.size
    clear c0
    go_wp2_with fail
    go_cut [15] from 16 (fun z wx => z = .bool false ∧ Below w.heap.size w wx)
    case first =>
      go_region_with (go_at_call 48; refine (HC.out _ _ [0, 2] (by first | exact ((hb1.alloc hb1.size _)).drew | exact (hb1.alloc hb1.size _)) (by exact ints_new wc [0, 2] _ rfl) (by simp) (by simp)).mono ?_; rintro ee w1 ⟨rfl, rfl⟩; rw [tot2])
      all_goals (go_wp2_with fail; go_meet; case rel => exact ⟨by simp [qs]; try omega, ((hb1.alloc hb1.size _)).drew⟩)
    case rest =>
      obtain ⟨rfl, hb2⟩ := hcut
      have c2 := HR.out _ hb2
      have heo2 := Nat.lt_of_lt_of_le heo hb2.size
      clear c1 heo1
      have hwr : IntKind.i64.wrap (2 * (s.c : Int)) = 2 * (s.c : Int) := by simp [IntKind.wrap_i64]; omega
      go_wp2_with fail
      go_cut [26] from 27 (fun z wx => z = .bool false ∧ Below w.heap.size w wx)
      case first =>
        go_region_with (go_at_call 48; refine (HC.out _ _ [0, 1, 2, 3] (by first | exact ((hb2.alloc hb2.size _)).drew | exact (hb2.alloc hb2.size _)) (by exact ints_new wc [0, 1, 2, 3] _ rfl) (by simp) (by simp)).mono ?_; rintro ee w1 ⟨rfl, rfl⟩; rw [tot4])
        all_goals (go_wp2_with fail; go_meet; case rel => exact ⟨by simp [qs]; try omega, ((hb2.alloc hb2.size _)).drew⟩)
      case rest =>
        obtain ⟨rfl, hb3⟩ := hcut
        go_wp2_with (go_at_call 55; refine (replace_any (EN.below HE.out hb3) HO.out (fun k h => HD.out k (Nat.le_trans hb3.size h)) hb hlo false).mono ?_; rintro ee w3 ⟨ad, cap, rfl, h3, hk3⟩)
        go_ret
        exact ⟨_, _, rfl, h3, (Keeps.of_below hb3).trans hk3⟩
end
end Go.Proofs.YtfbdmoineahfgaaDoor
