/- Of an engine: who goes from S (evictFromS). -/
import Derived.Test.YtnbfokmodjgaaabDoorEd
import Derived.Deep.LoopGhost
namespace Go.Proofs.YtnbfokmodjgaaabDoor
open Go.RowKit

section
variable {D : Nat → Prop} {w w' : World} {e b : Nat} {s : Stt}
theorem item_size (H : AE e b s D w) : (∀ x ∈ s.t1, x.key.size ≤ 1000 ∧ x.n ≤ 3) ∧ (∀ x ∈ s.t2, x.key.size ≤ 1000 ∧ x.n ≤ 3) ∧ (∀ x ∈ s.b1, x.key.size ≤ 1000 ∧ x.n ≤ 3) :=
  ⟨fun _ hx => EN.size H (i := 0) (by omega) (by simpa [qs] using hx), fun _ hx => EN.size H (i := 1) (by omega) (by simpa [qs] using hx), fun _ hx => EN.size H (i := 2) (by omega) (by simpa [qs] using hx)⟩
theorem oldest0 (H : AE e b s D w) (hb : b ≤ 700000) {x : Ls.It} {r : List Ls.It} (hq : s.t1 = x :: r) :
    Calls Tryd.prog 83 #[.pointer (some ⟨e, 0, none⟩), .int .i64 0] w fun ee w' => ee = .returned (.agg #[.string x.key, .int .i64 (x.n : Nat)]) ∧ Below w.heap.size w w' := oldest_any (i := 0) H (by omega) (by omega) (k := x) (r := r) (by simp [qs, hq])
theorem oldest1 (H : AE e b s D w) (hb : b ≤ 700000) {x : Ls.It} {r : List Ls.It} (hq : s.t2 = x :: r) :
    Calls Tryd.prog 83 #[.pointer (some ⟨e, 0, none⟩), .int .i64 1] w fun ee w' => ee = .returned (.agg #[.string x.key, .int .i64 (x.n : Nat)]) ∧ Below w.heap.size w w' := oldest_any (i := 1) H (by omega) (by omega) (k := x) (r := r) (by simp [qs, hq])
theorem oldest2 (H : AE e b s D w) (hb : b ≤ 700000) {x : Ls.It} {r : List Ls.It} (hq : s.b1 = x :: r) :
    Calls Tryd.prog 83 #[.pointer (some ⟨e, 0, none⟩), .int .i64 2] w fun ee w' => ee = .returned (.agg #[.string x.key, .int .i64 (x.n : Nat)]) ∧ Below w.heap.size w w' := oldest_any (i := 2) H (by omega) (by omega) (k := x) (r := r) (by simp [qs, hq])
/-- the oldest of S comes to M, its count 0 -/
theorem laid_m (ho : Single s) {x : Ls.It} {r : List Ls.It} (hq : s.t1 = x :: r) : ∀ i, i < 3 → qs { s with t1 := r, t2 := s.t2 ++ [⟨x.key, 0⟩] } i = laid (qs s) x.key 1 i := by
  have hout := (ho.out (k := x.key)).1 (by rw [hq]; simp [A.ks_cons])
  have hc : A.less (x :: r) x.key = r := less_head (fun j => by have := ho j; rw [hq] at this; omega)
  refine three ?_ ?_ ?_
  · simp [qs, laid, hq, hc]
  · simp [qs, laid, less_same hout.1]
  · simp [qs, laid, less_same hout.2]
/-- the oldest of S becomes the newest ghost -/
theorem laid_g (ho : Single s) {x : Ls.It} {r : List Ls.It} (hq : s.t1 = x :: r) : ∀ i, i < 3 → qs { s with t1 := r, b1 := s.b1 ++ [⟨x.key, 0⟩] } i = laid (qs s) x.key 2 i := by
  have hout := (ho.out (k := x.key)).1 (by rw [hq]; simp [A.ks_cons])
  have hc : A.less (x :: r) x.key = r := less_head (fun j => by have := ho j; rw [hq] at this; omega)
  refine three ?_ ?_ ?_
  · simp [qs, laid, hq, hc]
  · simp [qs, laid, less_same hout.1]
  · simp [qs, laid, less_same hout.2]
/-- the oldest ghost goes -/
theorem less_g (ho : Single s) {x : Ls.It} {r : List Ls.It} (hq : s.b1 = x :: r) : ∀ i, i < 3 → qs { s with b1 := r } i = A.less (qs s i) x.key := by
  have hout := (ho.out (k := x.key)).2.2 (by rw [hq]; simp [A.ks_cons])
  have hc : A.less (x :: r) x.key = r := less_head (fun j => by have := ho j; rw [hq] at this; omega)
  refine three ?_ ?_ ?_
  · simp [qs, less_same hout.1]
  · simp [qs, less_same hout.2]
  · simp [qs, hq, hc]
theorem single_m (ho : Single s) {x : Ls.It} {r : List Ls.It} (hq : s.t1 = x :: r) : Single { s with t1 := r, t2 := s.t2 ++ [⟨x.key, 0⟩] } := by
  intro j
  have h1 := ho j
  rw [hq, A.ks_cons, A.cnt_cons] at h1
  show A.cnt j (A.ks r) + A.cnt j (A.ks (s.t2 ++ [⟨x.key, 0⟩])) + A.cnt j (A.ks s.b1) ≤ 1
  rw [A.ks_snoc, A.cnt_snoc]
  simp only []
  omega
theorem single_g (ho : Single s) {x : Ls.It} {r : List Ls.It} (hq : s.t1 = x :: r) : Single { s with t1 := r, b1 := s.b1 ++ [⟨x.key, 0⟩] } := by
  intro j
  have h1 := ho j
  rw [hq, A.ks_cons, A.cnt_cons] at h1
  show A.cnt j (A.ks r) + A.cnt j (A.ks s.t2) + A.cnt j (A.ks (s.b1 ++ [⟨x.key, 0⟩])) ≤ 1
  rw [A.ks_snoc, A.cnt_snoc]
  simp only []
  omega
theorem single_drop {s : Stt} (ho : Single s) (l : List Ls.It) (n : Nat) (hl : s.b1 = l) : Single { s with b1 := l.drop n } := by
  intro k
  have h1 := ho k
  have h2 := A.drop_cnt k (A.ks l) n
  rw [hl] at h1
  show A.cnt k (A.ks s.t1) + A.cnt k (A.ks s.t2) + A.cnt k (A.ks (l.drop n)) ≤ 1
  have e : A.ks (l.drop n) = (A.ks l).drop n := by unfold A.ks; rw [List.map_drop]
  rw [e]
  omega
theorem drop_trim {l : List Ls.It} {j n : Nat} (h1 : j ≤ l.length - n) (h2 : l.length - j ≤ n) : l.drop j = A.trim n l := by
  unfold A.trim
  congr 1
  omega
/-- what evictFromS answers -/
def fromV (o : Option ByteArray) : Value := match o with
  | some k => .tuple #[.string k, .bool true]
  | none => .tuple #[.string ⟨#[]⟩, .bool false]
/-- what it leaves -/
def fromL (s : Stt) (o : Option ByteArray) (r m : List Ls.It) : Stt := match o with
  | some k => A.ghosted { s with t1 := r, t2 := m } k
  | none => { s with t1 := r, t2 := m }
theorem field_key (a b : Value) (w : World) : (Instr.field 71 (.agg #[a, b]) 0).run Tryd.prog w = .ok a w := by
  simp [Instr.field, run_underlying Tryd.underlying71, go_sem, asAgg]
/-- an engine beside a block that is the call's own -/
theorem AE.boxed (H : AE e b s D w) (hD : ∀ k, w.heap.size ≤ k → D k) (o : Obj) : AE e b s (fun k => D k ∧ k ≠ w.heap.size) (w.alloc o) ∧ ∀ k, (w.alloc o).heap.size ≤ k → D k ∧ k ≠ w.heap.size :=
  ⟨(H.narrow.below ((Below.refl _ w).alloc (Nat.le_refl _) o)).wide (fun _ _ h => ⟨h.1, by omega⟩), fun k hk => by rw [World.size_alloc] at hk; exact ⟨hD k (by omega), by omega⟩⟩
theorem boxed_stays {w5 : World} {o : Obj} (hk : Keeps (fun k => D k ∧ k ≠ w.heap.size) (w.alloc o) w5) : w5.heap[w.heap.size]? = some o := by
  rw [hk.block w.heap.size (by rw [World.size_alloc]; omega) (fun h => h.2 rfl)]
  exact heap_alloc_new w o
theorem fromS_more (x : Ls.It) (r m : List Ls.It) (h : 1 < x.n) : A.fromS (x :: r) m = A.fromS r (m ++ [⟨x.key, 0⟩]) := by
  rw [A.fromS, if_pos h]
theorem fromS_end (x : Ls.It) (r m : List Ls.It) (h : ¬ 1 < x.n) : A.fromS (x :: r) m = (some x.key, r, m) := by
  rw [A.fromS, if_neg h]
set_option maxRecDepth 100000 in
set_option maxHeartbeats 4000000 in
theorem evictFromS_any (H : AE e b s D w) (ho : Single s) (hD : ∀ k, w.heap.size ≤ k → D k) (hb : b ≤ 600000) (hc : s.c ≤ 1024) (hz : s.t1.length + s.t2.length ≤ 1400) (hg : s.b1.length ≤ 1100) :
    Calls Tryd.prog 61 #[.pointer (some ⟨e, 0, none⟩)] w fun ee w' => ee = .returned (fromV (A.fromS s.t1 s.t2).1) ∧ AE e b (fromL s (A.fromS s.t1 s.t2).1 (A.fromS s.t1 s.t2).2.1 (A.fromS s.t1 s.t2).2.2) D w' ∧ Keeps D w w' := by
  have HE : Hid (AE e b s D w) := H
  have HO : Hid (Single s) := ho
  have HD : Hid (∀ k, w.heap.size ≤ k → D k) := hD
  have HZ : Hid (s.t1.length + s.t2.length ≤ 1400 ∧ s.b1.length ≤ 1100) := ⟨hz, hg⟩
  clear H ho hD hz hg
  go_enter Tryd.func61, Tryd.ntmps61
  go_wp2_with fail
  go_loopg [] (s.t1.length) (fun n wr => ∃ S M : List Ls.It, n = S.length ∧ A.fromS s.t1 s.t2 = A.fromS S M ∧ S.length + M.length = s.t1.length + s.t2.length ∧ Single { s with t1 := S, t2 := M } ∧ AE e b { s with t1 := S, t2 := M } D wr ∧ Keeps D w wr)
  case atStart => exact ⟨s.t1, s.t2, rfl, rfl, rfl, HO.out, HE.out, .refl _ _⟩
  case round =>
    obtain ⟨S, M, rfl, hf, hlen, ho, hA, hK⟩ := hrel
    have HF : Hid (A.fromS s.t1 s.t2 = A.fromS S M) := hf
    have HLn : Hid (S.length + M.length = s.t1.length + s.t2.length) := hlen
    have HS : Hid (Single { s with t1 := S, t2 := M }) := ho
    have HA : Hid (AE e b { s with t1 := S, t2 := M } D wr) := hA
    have HK : Hid (Keeps D w wr) := hK
    have HDr : Hid (∀ k, wr.heap.size ≤ k → D k) := fun k h => HD.out k (Nat.le_trans hK.size h)
    have hc0 := count0 hA
    clear hf hlen ho hA hK
    cases S with
    | nil =>
      go_wp2_with (go_at_call 43; refine Calls.mono hc0 ?_; clear hc0; rintro ee w1 ⟨rfl, rfl⟩)
      go_ret2
      rw [HF.out]
      exact ⟨rfl, HA.out, HK.out⟩
    | cons x r =>
      obtain ⟨hks, hkn⟩ := (item_size HA.out).1 x (by simp)
      have hold := oldest0 HA.out (by omega) (x := x) (r := r) rfl
      obtain ⟨n1, hn1⟩ : ∃ n1, n1 = (x :: r).length := ⟨_, rfl⟩
      replace hc0 : Calls Tryd.prog 43 #[.pointer (some ⟨e, 0, none⟩), .int .i64 0] wr fun ee w' => ee = .returned (.int .i64 (n1 : Nat)) ∧ w' = wr := by
        rw [hn1]
        exact hc0
      have hxl : (x :: r).length = r.length + 1 := rfl
      have hn2 : 0 < n1 := by omega
      have hn3 : (0 : Int) < (n1 : Int) := by omega
      have HZ2 : Hid ((x :: r).length + M.length + s.b1.length ≤ 2900) := by
        have := HZ.out
        have := HLn.out
        show (x :: r).length + M.length + s.b1.length ≤ 2900
        omega
      clear hn1 hxl
      by_cases hx : 1 < x.n
      · have g1 : decide ((1 : Int) < (x.n : Int)) = true := decide_eq_true (by omega)
        have g2 : decide (1 < x.n) = true := decide_eq_true hx
        go_wp2_with (first
          | (go_at_call 43; refine Calls.mono hc0 ?_; clear hc0; rintro ee w1 ⟨rfl, rfl⟩)
          | (go_at_call 83; refine Calls.mono hold ?_; clear hold; rintro ee w2 ⟨rfl, hb2⟩; have HB2 : Hid (Below w1.heap.size w1 w2) := hb2; have hbx := AE.boxed (HA.out.below hb2) (fun k h => HDr.out k (Nat.le_trans hb2.size h)) (.cells #[.string x.key, .int .i64 (x.n : Nat)] 71); have hlay := lay_to (s' := { s with t1 := r, t2 := M ++ [⟨x.key, 0⟩] }) hbx.1 hbx.2 (by omega) HZ2.out x.key hks 1 (by omega) (laid_m HS.out rfl) rfl; clear hbx hb2)
          | (go_at_call 34; refine Calls.mono hlay ?_; clear hlay; rintro ee w3 ⟨rfl, h3, hk3⟩; have H3 : Hid (AE e b { s with t1 := r, t2 := M ++ [⟨x.key, 0⟩] } D w3) := (h3.wide (fun _ _ h => h.1)); have HK3 : Hid (Keeps D w w3) := ((HK.out.trans (Keeps.of_below HB2.out)).alloc _).trans (hk3.mono (fun _ _ h => h.1)); clear h3 hk3))
        go_roundg (r.length)
        case measure => simp
        case rel => exact ⟨r, M ++ [⟨x.key, 0⟩], rfl, HF.out.trans (fromS_more _ _ _ hx), by have := HLn.out; rw [← this]; simp; omega, single_m HS.out rfl, H3.out, HK3.out⟩
      · have g1 : decide ((1 : Int) < (x.n : Int)) = false := decide_eq_false (by omega)
        have g2 : decide (1 < x.n) = false := decide_eq_false hx
        obtain ⟨L, hL⟩ : ∃ L : List Ls.It, L = s.b1 ++ [⟨x.key, 0⟩] := ⟨_, rfl⟩
        have HLq : Hid (L = s.b1 ++ [⟨x.key, 0⟩]) := hL
        have hLl : L.length ≤ 1101 := by rw [hL]; have := HZ.out; simp; omega
        have HSg : Hid (Single { s with t1 := r, t2 := M, b1 := L }) := by
          have := single_g HS.out (x := x) (r := r) rfl
          rw [hL]
          exact this
        have hgl := laid_g HS.out (x := x) (r := r) rfl
        have HGl : Hid (∀ i, i < 3 → qs { s with t1 := r, t2 := M, b1 := L } i = laid (qs { s with t1 := x :: r, t2 := M }) x.key 2 i) := by
          rw [hL]
          exact hgl
        have hgmx : A.gmax s ≤ 1024 := by unfold A.gmax; omega
        obtain ⟨gm, hgm⟩ : ∃ gm, gm = A.gmax s := ⟨_, rfl⟩
        have HGm : Hid (gm = A.gmax s) := hgm
        rw [← hgm] at hgmx
        clear hL hgl hgm
        go_wp2_with (first
          | (go_at_call 43; refine Calls.mono hc0 ?_; clear hc0; rintro ee w1 ⟨rfl, rfl⟩)
          | (go_at_call 83; refine Calls.mono hold ?_; clear hold; rintro ee w2 ⟨rfl, hb2⟩; have HB2 : Hid (Below w1.heap.size w1 w2) := hb2; have hbx := AE.boxed (HA.out.below hb2) (fun k h => HDr.out k (Nat.le_trans hb2.size h)) (.cells #[.string x.key, .int .i64 (x.n : Nat)] 71); have HBx : Hid (∀ k, (w2.alloc (.cells #[.string x.key, .int .i64 (x.n : Nat)] 71)).heap.size ≤ k → D k ∧ k ≠ w2.heap.size) := hbx.2; have hlay := lay_to (s' := { s with t1 := r, t2 := M, b1 := L }) hbx.1 hbx.2 (by omega) HZ2.out x.key hks 2 (by omega) HGl.out rfl; clear hbx hb2)
          | (go_at_call 34; refine Calls.mono hlay ?_; clear hlay; rintro ee w3 ⟨rfl, h3, hk3⟩; have H3 : Hid (AE e b { s with t1 := r, t2 := M, b1 := L } (fun k => D k ∧ k ≠ w2.heap.size) w3) := h3; have HK3 : Hid (Keeps (fun k => D k ∧ k ≠ w2.heap.size) (w2.alloc (.cells #[.string x.key, .int .i64 (x.n : Nat)] 71)) w3) := hk3; clear h3 hk3))
        go_loopg [] (L.length) (fun n wy => ∃ j : Nat, n = L.length - j ∧ j ≤ L.length - gm ∧ AE e b { s with t1 := r, t2 := M, b1 := L.drop j } (fun k => D k ∧ k ≠ w2.heap.size) wy ∧ Keeps (fun k => D k ∧ k ≠ w2.heap.size) (w2.alloc (.cells #[.string x.key, .int .i64 (x.n : Nat)] 71)) wy)
        case atStart => exact ⟨0, rfl, Nat.zero_le _, H3.out, HK3.out⟩
        case round =>
          clear H3 HK3
          obtain ⟨j, rfl, hj, hA5, hK5⟩ := hrel
          have HA5 : Hid (AE e b { s with t1 := r, t2 := M, b1 := L.drop j } (fun k => D k ∧ k ≠ w2.heap.size) wr) := hA5
          have HK5 : Hid (Keeps (fun k => D k ∧ k ≠ w2.heap.size) (w2.alloc (.cells #[.string x.key, .int .i64 (x.n : Nat)] 71)) wr) := hK5
          have hc2 := count2 hA5
          have HGr : Hid (Calls Tryd.prog 84 #[.pointer (some ⟨e, 0, none⟩)] wr fun ee w' => ee = .returned (.int .i64 ((gm : Nat) : Int)) ∧ Below wr.heap.size wr w') := by
            have := ghostRoomA hA5 hc
            rw [HGm.out]
            exact this
          rw [List.length_drop] at hc2
          have hD5 : ∀ k, wr.heap.size ≤ k → D k ∧ k ≠ w2.heap.size := fun k h => HBx.out k (Nat.le_trans hK5.size h)
          by_cases hgt : gm < L.length - j
          · obtain ⟨y, rest, hy⟩ : ∃ y rest, L.drop j = y :: rest := by
              cases hy : L.drop j with
              | nil => have := congrArg List.length hy; simp at this; omega
              | cons y rest => exact ⟨y, rest, rfl⟩
            have hrest : rest = L.drop (j + 1) := by
              have : (L.drop j).drop 1 = rest := by rw [hy]; rfl
              rw [← this, List.drop_drop]
            have hys := ((item_size hA5).2.2 y (by show y ∈ L.drop j; rw [hy]; simp)).1
            have hds := single_drop HSg.out L j rfl
            have HTk : Hid (∀ W, Below wr.heap.size wr W → Calls Tryd.prog 37 #[.pointer (some ⟨e, 0, none⟩), .string y.key] W fun ee w' => ee = .returned (.tuple #[]) ∧ AE e b { s with t1 := r, t2 := M, b1 := L.drop (j + 1) } (fun k => D k ∧ k ≠ w2.heap.size) w' ∧ Keeps (fun k => D k ∧ k ≠ w2.heap.size) W w') := fun W hW => by
              have h9 := less_g hds (x := y) (r := rest) hy
              rw [hrest] at h9
              exact take_to (s' := { s with t1 := r, t2 := M, b1 := L.drop (j + 1) }) (hA5.below hW) (fun k h => hD5 k (Nat.le_trans hW.size h)) (by omega) y.key hys h9 rfl
            have HOl : Hid (∀ W, Below wr.heap.size wr W → Calls Tryd.prog 83 #[.pointer (some ⟨e, 0, none⟩), .int .i64 2] W fun ee w' => ee = .returned (.agg #[.string y.key, .int .i64 (y.n : Nat)]) ∧ Below W.heap.size W w') := fun W hW => oldest2 (hA5.below hW) (by omega) (x := y) (r := rest) hy
            have hfld := fun W => field_key (.string y.key) (.int .i64 (y.n : Nat)) W
            have hgI : (gm : Int) < ((L.length - j : Nat) : Int) := by omega
            have HJ : Hid (gm < L.length - j) := hgt
            clear hA5 hK5 hy hrest hds hgt hD5
            obtain ⟨lj, hlj⟩ : ∃ lj, lj = L.length - j := ⟨_, rfl⟩
            rw [← hlj] at hc2 hgI
            clear hlj
            go_wp2_with (first
              | (go_at_call 43; refine Calls.mono hc2 ?_; clear hc2; rintro ee w4 ⟨rfl, rfl⟩)
              | (go_at_call 84; refine Calls.mono HGr.out ?_; rintro ee w5 ⟨rfl, hb5⟩; have HB5 : Hid (Below w4.heap.size w4 w5) := hb5; clear hb5)
              | (go_at_call 83; refine Calls.mono (HOl.out _ HB5.out) ?_; rintro ee w6 ⟨rfl, hb6⟩; have HB6 : Hid (Below w4.heap.size w4 w6) := below_tr HB5.out hb6; clear hb6)
              | (go_at_call 37; refine Calls.mono (HTk.out _ HB6.out) ?_; rintro ee w7 ⟨rfl, h7, hk7⟩; have H7 : Hid (AE e b { s with t1 := r, t2 := M, b1 := L.drop (j + 1) } (fun k => D k ∧ k ≠ w2.heap.size) w7) := h7; have HK7 : Hid (Keeps (fun k => D k ∧ k ≠ w2.heap.size) (w2.alloc (.cells #[.string x.key, .int .i64 (x.n : Nat)] 71)) w7) := ((HK5.out.trans (Keeps.of_below HB6.out)).trans hk7); clear h7 hk7))
            go_roundg (L.length - (j + 1))
            case measure => have := HJ.out; omega
            case rel => exact ⟨j + 1, rfl, by have := HJ.out; omega, H7.out, HK7.out⟩
          · have hgI : ¬ (gm : Int) < ((L.length - j : Nat) : Int) := by omega
            have hblk := boxed_stays hK5
            have bc0 := cell_of_block (j := 0) hblk
            have hlt := lt_of_block hblk
            simp at bc0
            clear hA5 hK5 hblk hD5
            have HJ : Hid (¬ gm < L.length - j) := hgt
            clear hgt
            obtain ⟨lj, hlj⟩ : ∃ lj, lj = L.length - j := ⟨_, rfl⟩
            rw [← hlj] at hc2 hgI
            clear hlj
            go_wp2_with (first
              | (go_at_call 43; refine Calls.mono hc2 ?_; clear hc2; rintro ee w4 ⟨rfl, rfl⟩)
              | (go_at_call 84; refine Calls.mono HGr.out ?_; rintro ee w5 ⟨rfl, hb5⟩; have HB5 : Hid (Below w4.heap.size w4 w5) := hb5; have bc5 := cell_later hb5 bc0; clear hb5))
            go_ret2
            rw [HF.out, fromS_end _ _ _ hx]
            refine ⟨rfl, ?_, ?_⟩
            · have h9 := HA5.out.below HB5.out
              have e9 : L.drop j = A.trim (A.gmax s) (s.b1 ++ [⟨x.key, 0⟩]) := by
                rw [← HLq.out, ← HGm.out]
                exact drop_trim hj (by have := HJ.out; omega)
              show AE e b { s with t1 := r, t2 := M, b1 := A.trim (A.gmax s) (s.b1 ++ [⟨x.key, 0⟩]) } D w5
              rw [← e9]
              exact h9.wide (fun _ _ h => h.1)
            · exact (((HK.out.trans (Keeps.of_below HB2.out)).alloc _).trans (HK5.out.mono (fun _ _ h => h.1))).trans (Keeps.of_below HB5.out)
end
end Go.Proofs.YtnbfokmodjgaaabDoor
