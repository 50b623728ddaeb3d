/- The document's machine: Keys, Ghosts, State. -/
import Derived.Test.YtcbaalodhgkgmaaRfk
import Derived.Test.YtcbaalodhgkgmaaEo
import Derived.Laws.Concat
import Derived.Laws.BytesString
import Derived.Laws.IdiomStrings
import Derived.StillTailTactics
namespace Go.Proofs.Ytcbaalodhgkgmaa
open Go.RowKit

namespace C
/-- the keys that are something -/
def pick (n : Nat) (l : List It) : List ByteArray := (l.filter (fun z => decide (z.n = n))).map It.key
theorem pick_yes {n : Nat} {l : List It} {j : Nat} {z : It} (h : l[j]? = some z) (hz : z.n = n) : pick n (l.take (j + 1)) = pick n (l.take j) ++ [z.key] := by
  rw [List.take_add_one, h]
  simp [pick, hz]
theorem pick_no {n : Nat} {l : List It} {j : Nat} {z : It} (h : l[j]? = some z) (hz : z.n ≠ n) : pick n (l.take (j + 1)) = pick n (l.take j) := by
  rw [List.take_add_one, h]
  simp [pick, hz]
theorem pick_take (n : Nat) (l : List It) (j : Nat) : (pick n (l.take j)).length ≤ l.length := by
  have h1 := List.length_filter_le (fun z : It => decide (z.n = n)) (l.take j)
  simp only [pick, List.length_map]
  simp at h1
  omega
end C
theorem pick_hots (s : Stt) : C.pick 104 (cel s).s = A.hots s := by
  show ((s.t1.map (fun k => (⟨k, A.sig s.b1 s.t2 k⟩ : C.It))).filter (fun z => decide (z.n = 104))).map C.It.key = s.t1.filter (A.isHot s.b1 s.t2)
  rw [List.filter_map, List.map_map]
  have e1 : (s.t1.filter ((fun z : C.It => decide (z.n = 104)) ∘ fun k => (⟨k, A.sig s.b1 s.t2 k⟩ : C.It))) = s.t1.filter (A.isHot s.b1 s.t2) := by
    refine List.filter_congr (fun x _ => ?_)
    show decide (A.sig s.b1 s.t2 x = 104) = A.isHot s.b1 s.t2 x
    cases hv : A.isHot s.b1 s.t2 x with
    | true => exact decide_eq_true (A.sig_104.2 hv)
    | false => exact decide_eq_false (fun e => by have := A.sig_104.1 e; rw [hv] at this; cases this)
  rw [e1]
  exact List.map_id _
theorem filter_ghosts {κ : Type} [DecidableEq κ] {s : A.St κ} (h : A.Base s) : s.t1.filter (fun k => decide (k ∈ s.t2)) = s.t2 := by
  obtain ⟨l, h1, h2⟩ := h.ord
  have e1 : s.t1.filter (fun k => decide (k ∈ s.t2)) = (s.t1.filter (fun k => !A.isHot s.b1 s.t2 k)).filter (fun k => decide (k ∈ s.t2)) := by
    rw [List.filter_filter]
    refine List.filter_congr (fun x _ => ?_)
    by_cases hx : x ∈ s.t2
    · have : A.isHot s.b1 s.t2 x = false := A.isHot_not.2 (.inr hx)
      simp [hx, this]
    · simp [hx]
  rw [e1, h1, List.filter_append]
  have a1 : s.t2.filter (fun k => decide (k ∈ s.t2)) = s.t2 := by
    rw [List.filter_eq_self]
    intro x hx
    simpa using hx
  have a2 : l.filter (fun k => decide (k ∈ s.t2)) = [] := by
    rw [List.filter_eq_nil_iff]
    intro x hx hx2
    exact h.dis x (by simpa using hx2) (h2.mem hx)
  rw [a1, a2, List.append_nil]
theorem filter_sig {κ : Type} [DecidableEq κ] {s : A.St κ} (h : A.Base s) : s.t1.filter (fun k => decide (A.sig s.b1 s.t2 k = 103)) = s.t2 := by
  have e1 : s.t1.filter (fun k => decide (A.sig s.b1 s.t2 k = 103)) = s.t1.filter (fun k => decide (k ∈ s.t2)) :=
    List.filter_congr (fun x _ => decide_eq_decide.2 A.sig_103)
  rw [e1, filter_ghosts h]
theorem pick_ghosts {s : Stt} (h : A.Base s) : C.pick 103 (cel s).s = A.ghosts s := by
  show ((s.t1.map (fun k => (⟨k, A.sig s.b1 s.t2 k⟩ : C.It))).filter (fun z => decide (z.n = 103))).map C.It.key = s.t2
  rw [List.filter_map, List.map_map]
  have e1 := filter_sig h
  have e2 : (s.t1.filter ((fun z : C.It => decide (z.n = 103)) ∘ fun k => (⟨k, A.sig s.b1 s.t2 k⟩ : C.It))) = s.t2 := e1
  rw [e2]
  exact List.map_id _
section
variable {D D' : Nat → Prop} {w w' : World} {x : Nat} {s : Rs}
set_option maxHeartbeats 4000000 in
theorem mkeys_any (H : RM x s D w) (hs : Sm s) :
    Calls Try.prog 19 #[.pointer (some ⟨x, 0, none⟩)] w fun e w' => ∃ ad cap, e = .returned (.slice ad (s.q ++ C.pick 104 s.s).length cap) ∧ Row (w.heap.size ≤ ·) w' ad cap (s.q ++ C.pick 104 s.s) ∧ Below w.heap.size w w' := by
  obtain ⟨L, a1, c1, a2, c2, H⟩ := H
  have l1 := hs.l1
  have l2 := hs.l2
  have HC : Hid (∀ W, Below w.heap.size w W → W.cell? ⟨x, 0, none⟩ = some (.slice a1 s.s.length c1) ∧ W.cell? ⟨x, 1, none⟩ = some (.slice a2 s.q.length c2)) := fun W hb => by
    obtain ⟨p0, p1, p2⟩ := (H.below hb).cells
    exact ⟨p0, p1⟩
  have HR1 : Hid (C.Row (fun g => D g ∧ L g = 1) w a1 c1 s.s) := H.r1
  have HR2 : Hid (Row (fun g => D g ∧ L g = 2) w a2 c2 s.q) := H.r2
  clear H hs
  generalize s.s = l at *
  generalize s.q = zs at *
  go_enter Try.func19, Try.ntmps19
  obtain ⟨c0a, c1a⟩ := HC.out _ ((Below.refl _ w).alloc (Nat.le_refl _) (.cells #[] 9))
  go_wp2_with (at_builtin; go_must (refine wpList_append_row (zs := []) (ks := zs) (D := fun g => w.heap.size ≤ g) rfl _ _ rfl rfl (Row.bare _) (vx := .slice a2 zs.length c2) rfl ((HR2.out.below ((Below.refl _ w).alloc (Nat.le_refl _) _)).src) (by simp; omega) ?_); intro a5 n5 w5 hr5 hk5; rw [List.nil_append] at hr5; have hb5 : Below w.heap.size w w5 := ((Below.refl _ w).alloc (Nat.le_refl _) _).trans (hk5.below (by simp) (fun _ h => h)); have HB5 : Hid (Below w.heap.size w w5) := hb5; have HR5 : Hid (Row (w.heap.size ≤ ·) w5 a5 n5 zs) := (rrow_old hr5 (by simp)); simp only [List.length_nil, Nat.zero_add]; clear hr5 hk5 hb5)
  go_loopw [3, 4] (fun v i wr => ∃ (j : Nat) (b : Option Addr) (n : Nat), j ≤ l.length ∧ i = .int .i64 j ∧ v = .slice b (zs ++ C.pick 104 (l.take j)).length n ∧ Row (w.heap.size ≤ ·) wr b n (zs ++ C.pick 104 (l.take j)) ∧ Below w.heap.size w wr) (fun _ i _ => l.length - (intOf i).toNat)
  case atStart => exact ⟨0, a5, n5, Nat.zero_le _, rfl, by simp [C.pick], by simpa [C.pick] using HR5.out, HB5.out⟩
  case round =>
    obtain ⟨j, b, n, hj, rfl, rfl, hrow, hb⟩ := hrel
    have hs := hb.size
    obtain ⟨d0, d1⟩ := HC.out wr hb
    have hpt := C.pick_take 104 l j
    have hlen : (zs ++ C.pick 104 (l.take j)).length ≤ 10000 := by rw [List.length_append]; omega
    have HRow : Hid (Row (w.heap.size ≤ ·) wr b n (zs ++ C.pick 104 (l.take j))) := hrow
    clear hrow hpt
    rcases Nat.lt_or_ge j l.length with hlt | hge
    · obtain ⟨z, hz⟩ : ∃ z, l[j]? = some z := ⟨_, List.getElem?_eq_getElem hlt⟩
      obtain ⟨g, off, rfl, -, -, k0, k1, -⟩ := (HR1.out.below hb).at hz
      by_cases he : z.n = 104
      · have hE : ((z.n : Int) == 104) = true := by simp; omega
        have HT : Hid (zs ++ C.pick 104 (l.take (j + 1)) = (zs ++ C.pick 104 (l.take j)) ++ [z.key]) := by
          show zs ++ C.pick 104 (l.take (j + 1)) = _
          rw [C.pick_yes hz he]
          simp
        clear hz he
        generalize zs ++ C.pick 104 (l.take j) = m at *
        go_wp2_with (at_builtin; go_must (refine wpList_append_row (zs := m) (ks := [z.key]) rfl _ _ rfl rfl (HRow.out.below ((Below.refl _ wr).alloc (Nat.le_refl _) _)) rfl (src_one _ z.key) (by simp; omega) ?_); intro a3 c3 w3 hrow3 hk3; have hb3 : Below w.heap.size w w3 := (hb.alloc hs _).trans (hk3.below (by simp; omega) (fun _ h => h)); have hrow3' : Row (w.heap.size ≤ ·) w3 a3 c3 (m ++ [z.key]) := rrow_old hrow3 (by simp; omega); clear hrow3 hk3)
        go_roundw
        case rel => exact ⟨j + 1, a3, c3, hlt, by go_num, by rw [HT.out, List.length_append, List.length_cons, List.length_nil], by rw [HT.out]; exact hrow3', hb3⟩
        case measure => simp [intOf]; omega
      · have hE : ((z.n : Int) == 104) = false := by simp; omega
        have HT : Hid (zs ++ C.pick 104 (l.take (j + 1)) = zs ++ C.pick 104 (l.take j)) := by
          show zs ++ C.pick 104 (l.take (j + 1)) = _
          rw [C.pick_no hz he]
        clear hz he
        generalize zs ++ C.pick 104 (l.take j) = m at *
        go_wp2_with fail
        go_roundw
        case rel => exact ⟨j + 1, b, n, hlt, by go_num, by rw [HT.out], by rw [HT.out]; exact HRow.out, hb⟩
        case measure => simp [intOf]; omega
    · have hj' : j = l.length := by omega
      subst hj'
      rw [List.take_length] at *
      go_wp2_with fail
      go_ret
      exact ⟨_, _, rfl, HRow.out, hb⟩
set_option maxHeartbeats 4000000 in
theorem mghosts_any (H : RM x s D w) (hs : Sm s) :
    Calls Try.prog 21 #[.pointer (some ⟨x, 0, none⟩)] w fun e w' => ∃ ad cap, e = .returned (.slice ad (C.pick 103 s.s).length cap) ∧ Row (w.heap.size ≤ ·) w' ad cap (C.pick 103 s.s) ∧ Below w.heap.size w w' := by
  obtain ⟨L, a1, c1, a2, c2, H⟩ := H
  have l1 := hs.l1
  have HC : Hid (∀ W, Below w.heap.size w W → W.cell? ⟨x, 0, none⟩ = some (.slice a1 s.s.length c1)) := fun W hb => (H.below hb).cells.1
  have HR1 : Hid (C.Row (fun g => D g ∧ L g = 1) w a1 c1 s.s) := H.r1
  clear H hs
  generalize s.s = l at *
  go_enter Try.func21, Try.ntmps21
  go_wp2_with fail
  go_loopw [3, 4] (fun v i wr => ∃ (j : Nat) (b : Option Addr) (n : Nat), j ≤ l.length ∧ i = .int .i64 j ∧ v = .slice b (C.pick 103 (l.take j)).length n ∧ Row (w.heap.size ≤ ·) wr b n (C.pick 103 (l.take j)) ∧ Below w.heap.size w wr) (fun _ i _ => l.length - (intOf i).toNat)
  case atStart => exact ⟨0, none, 0, Nat.zero_le _, rfl, rfl, Row.nil, Below.refl _ _⟩
  case round =>
    obtain ⟨j, b, n, hj, rfl, rfl, hrow, hb⟩ := hrel
    have hs := hb.size
    have d0 := HC.out wr hb
    have hpt := C.pick_take 103 l j
    have HRow : Hid (Row (w.heap.size ≤ ·) wr b n (C.pick 103 (l.take j))) := hrow
    clear hrow
    rcases Nat.lt_or_ge j l.length with hlt | hge
    · obtain ⟨z, hz⟩ : ∃ z, l[j]? = some z := ⟨_, List.getElem?_eq_getElem hlt⟩
      obtain ⟨g, off, rfl, -, -, k0, k1, -⟩ := (HR1.out.below hb).at hz
      by_cases he : z.n = 103
      · have hE : ((z.n : Int) == 103) = true := by simp; omega
        have HT : Hid (C.pick 103 (l.take (j + 1)) = C.pick 103 (l.take j) ++ [z.key]) := C.pick_yes hz he
        clear hz he
        generalize C.pick 103 (l.take j) = m at *
        go_wp2_with (at_builtin; go_must (refine wpList_append_row (zs := m) (ks := [z.key]) rfl _ _ rfl rfl (HRow.out.below ((Below.refl _ wr).alloc (Nat.le_refl _) _)) rfl (src_one _ z.key) (by simp; omega) ?_); intro a3 c3 w3 hrow3 hk3; have hb3 : Below w.heap.size w w3 := (hb.alloc hs _).trans (hk3.below (by simp; omega) (fun _ h => h)); have hrow3' : Row (w.heap.size ≤ ·) w3 a3 c3 (m ++ [z.key]) := rrow_old hrow3 (by simp; omega); clear hrow3 hk3)
        go_roundw
        case rel => exact ⟨j + 1, a3, c3, hlt, by go_num, by rw [HT.out, List.length_append, List.length_cons, List.length_nil], by rw [HT.out]; exact hrow3', hb3⟩
        case measure => simp [intOf]; omega
      · have hE : ((z.n : Int) == 103) = false := by simp; omega
        have HT : Hid (C.pick 103 (l.take (j + 1)) = C.pick 103 (l.take j)) := C.pick_no hz he
        clear hz he
        generalize C.pick 103 (l.take j) = m at *
        go_wp2_with fail
        go_roundw
        case rel => exact ⟨j + 1, b, n, hlt, by go_num, by rw [HT.out], by rw [HT.out]; exact HRow.out, hb⟩
        case measure => simp [intOf]; omega
    · have hj' : j = l.length := by omega
      subst hj'
      rw [List.take_length] at *
      go_wp2_with fail
      go_ret
      exact ⟨_, _, rfl, HRow.out, hb⟩
end
section
variable {D D' : Nat → Prop} {w w' : World} {x : Nat} {s : Stt}
theorem rkeys_any (H : RE x s D w) (hs : Small s) :
    Calls Try.prog 19 #[.pointer (some ⟨x, 0, none⟩)] w fun e w' => ∃ ad cap, e = .returned (.slice ad (A.keys s).length cap) ∧ Row (w.heap.size ≤ ·) w' ad cap (A.keys s) ∧ Below w.heap.size w w' := by
  have := mkeys_any H (slOf hs).sm
  rw [pick_hots] at this
  exact this
theorem rghosts_any (H : RE x s D w) (hs : Small s) :
    Calls Try.prog 21 #[.pointer (some ⟨x, 0, none⟩)] w fun e w' => ∃ ad cap, e = .returned (.slice ad (A.ghosts s).length cap) ∧ Row (w.heap.size ≤ ·) w' ad cap (A.ghosts s) ∧ Below w.heap.size w w' := by
  have := mghosts_any H (slOf hs).sm
  rw [pick_ghosts hs.toBase] at this
  exact this
end
/-- a cell's sign, as a text -/
def sgn (n : Nat) : ByteArray := ⟨#[UInt8.ofNat n]⟩
/-- cells behind a text -/
def cT (t : ByteArray) (zs : List C.It) : ByteArray := zs.foldl (fun t z => t ++ ⟨#[32]⟩ ++ z.key ++ ⟨#[47]⟩ ++ sgn z.n) t
theorem cT_snoc (t : ByteArray) (zs : List C.It) (z : C.It) : cT t (zs ++ [z]) = cT t zs ++ ⟨#[32]⟩ ++ z.key ++ ⟨#[47]⟩ ++ sgn z.n := by simp [cT]
theorem size_snoc (a b : ByteArray) : (a ++ b).size = a.size + b.size := by simp
theorem cT_size : ∀ (zs : List C.It) (t : ByteArray), (∀ z ∈ zs, z.key.size ≤ 1000) → (cT t zs).size ≤ t.size + 1003 * zs.length := by
  intro zs
  induction zs with
  | nil => intro t _; simp [cT]
  | cons a l ih =>
    intro t hz
    have h1 := ih (t ++ ⟨#[32]⟩ ++ a.key ++ ⟨#[47]⟩ ++ sgn a.n) (fun z h => hz z (List.mem_cons_of_mem _ h))
    have h2 := hz a List.mem_cons_self
    rw [size_snoc, size_snoc, size_snoc, size_snoc] at h1
    have h3 : (⟨#[32]⟩ : ByteArray).size = 1 := rfl
    have h4 : (⟨#[47]⟩ : ByteArray).size = 1 := rfl
    have h5 : (sgn a.n).size = 1 := rfl
    rw [List.length_cons]
    show (cT (t ++ ⟨#[32]⟩ ++ a.key ++ ⟨#[47]⟩ ++ sgn a.n) l).size ≤ _
    omega
/-- texts behind a text -/
def gT (t : ByteArray) (zs : List ByteArray) : ByteArray := zs.foldl (fun t z => t ++ ⟨#[32]⟩ ++ z) t
theorem gT_snoc (t : ByteArray) (zs : List ByteArray) (z : ByteArray) : gT t (zs ++ [z]) = gT t zs ++ ⟨#[32]⟩ ++ z := by simp [gT]
theorem gT_size : ∀ (zs : List ByteArray) (t : ByteArray), (∀ z ∈ zs, z.size ≤ 1000) → (gT t zs).size ≤ t.size + 1001 * zs.length := by
  intro zs
  induction zs with
  | nil => intro t _; simp [gT]
  | cons a l ih =>
    intro t hz
    have h1 := ih (t ++ ⟨#[32]⟩ ++ a) (fun z h => hz z (List.mem_cons_of_mem _ h))
    have h2 := hz a List.mem_cons_self
    rw [size_snoc, size_snoc] at h1
    have h3 : (⟨#[32]⟩ : ByteArray).size = 1 := rfl
    rw [List.length_cons]
    show (gT (t ++ ⟨#[32]⟩ ++ a) l).size ≤ _
    omega
theorem bytes_app (a b : ByteArray) : (a ++ b).data.toList = a.data.toList ++ b.data.toList := by simp
theorem gT_bytes : ∀ (zs : List ByteArray) (t : ByteArray), (gT t zs).data.toList = t.data.toList ++ rowB zs := by
  intro zs
  induction zs with
  | nil => intro t; simp [gT, rowB]
  | cons z l ih =>
    intro t
    show (gT (t ++ ⟨#[32]⟩ ++ z) l).data.toList = _
    rw [ih, bytes_app, bytes_app]
    simp [rowB]
theorem sgn_letter (s : Stt) (k : ByteArray) : UInt8.ofNat (A.sig s.b1 s.t2 k) = letB (qs s) k := by
  have q1 : qs s 1 = s.b1 := rfl
  have q2 : qs s 2 = s.t2 := rfl
  unfold letB
  rw [q1, q2]
  by_cases h : k ∈ s.t2
  · rw [A.sig_ghost h, inb_yes h]; rfl
  · rw [inb_no h]
    by_cases h2 : k ∈ s.b1
    · rw [A.sig_cold h h2, inb_yes h2]; rfl
    · rw [A.sig_hot h h2, inb_no h2]; rfl
theorem cT_bytes (s : Stt) : ∀ (t : List ByteArray) (u : ByteArray), (cT u (cels t s.b1 s.t2)).data.toList = u.data.toList ++ sB (qs s) t := by
  intro t
  induction t with
  | nil => intro u; simp [cT, cels, sB]
  | cons z l ih =>
    intro u
    show (cT (u ++ ⟨#[32]⟩ ++ z ++ ⟨#[47]⟩ ++ sgn (A.sig s.b1 s.t2 z)) (cels l s.b1 s.t2)).data.toList = _
    rw [ih, bytes_app, bytes_app, bytes_app, bytes_app]
    have : (sgn (A.sig s.b1 s.t2 z)).data.toList = [letB (qs s) z] := by
      rw [← sgn_letter]
      rfl
    rw [this]
    simp [sB, cellB]
/-- the machine's text -/
def stR (s : Rs) : ByteArray := gT (cT ⟨#[83, 58]⟩ s.s ++ ⟨#[59, 81, 58]⟩) s.q
def stT (s : Stt) : ByteArray := stR (cel s)
theorem stT_eq (s : Stt) : stT s = ⟨(stB (qs s)).toArray⟩ := by
  have h : (stT s).data.toList = stB (qs s) := by
    show (gT (cT ⟨#[83, 58]⟩ (cels s.t1 s.b1 s.t2) ++ ⟨#[59, 81, 58]⟩) s.b1).data.toList = _
    rw [gT_bytes, bytes_app, cT_bytes]
    show _ = ([83, 58] ++ sB (qs s) s.t1) ++ ([59, 81, 58] ++ rowB s.b1)
    simp
  rw [← h]
theorem conv_sgn {W : World} {a n : Nat} (h : W.cell? ⟨a, 0, none⟩ = some (.int .u8 (n : Nat))) : (convert 64 9 (.slice (some ⟨a, 0, none⟩) 1 1)).run Try.prog W = .ok (.string (sgn n)) W := by
  rw [run_convert_bytes_string _ 64 9 5 _ 1 1 Try.underlying64 Try.underlying5 Try.underlying9, run_bytesToString _ _ 1 1 [(n : Int)]]
  · show _ = Result.ok (Value.string ⟨#[UInt8.ofNat n]⟩) W
    simp only [List.foldl_cons, List.foldl_nil, Int.toNat_natCast]
    rfl
  · simp [loadCells, loadCellsFrom, Addr.add_lit, h]
section
variable {D D' : Nat → Prop} {w w' : World} {x : Nat} {s : Rs}
set_option maxRecDepth 20000 in
set_option maxHeartbeats 4000000 in
theorem mstate_any (H : RM x s D w) (hs : Sm s) (hz : ∀ z ∈ s.s, z.key.size ≤ 1000) (hz2 : ∀ z ∈ s.q, z.size ≤ 1000) :
    Calls Try.prog 14 #[.pointer (some ⟨x, 0, none⟩)] w fun e w' => e = .returned (.string (stR s)) ∧ Below w.heap.size w w' := by
  obtain ⟨L, a1, c1, a2, c2, H⟩ := H
  have l1 := hs.l1
  have l2 := hs.l2
  have HZ1 : Hid (∀ z ∈ s.s, z.key.size ≤ 1000) := hz
  have HZ2 : Hid (∀ z ∈ s.q, z.size ≤ 1000) := hz2
  have HC : Hid (∀ W, Below w.heap.size w W → W.cell? ⟨x, 0, none⟩ = some (.slice a1 s.s.length c1) ∧ W.cell? ⟨x, 1, none⟩ = some (.slice a2 s.q.length c2)) := fun W hb => by
    obtain ⟨p0, p1, p2⟩ := (H.below hb).cells
    exact ⟨p0, p1⟩
  have HR1 : Hid (C.Row (fun g => D g ∧ L g = 1) w a1 c1 s.s) := H.r1
  have HR2 : Hid (Row (fun g => D g ∧ L g = 2) w a2 c2 s.q) := H.r2
  unfold stR
  clear H hs hz hz2
  generalize s.s = l at *
  generalize s.q = zs at *
  go_enter Try.func14, Try.ntmps14
  go_wp2_with fail
  go_loopw [3, 4] (fun t i wr => ∃ j : Nat, j ≤ l.length ∧ i = .int .i64 j ∧ t = .string (cT ⟨#[83, 58]⟩ (l.take j)) ∧ Below w.heap.size w wr) (fun _ i _ => l.length - (intOf i).toNat)
  case atStart => exact ⟨0, Nat.zero_le _, rfl, rfl, Below.refl _ _⟩
  case round =>
    obtain ⟨j, hj, rfl, rfl, hb⟩ := hrel
    have HB : Hid (Below w.heap.size w wr) := hb
    obtain ⟨d0, d1⟩ := HC.out wr hb
    have s0 : (⟨#[83, 58]⟩ : ByteArray).size = 2 := rfl
    have hts := cT_size (l.take j) ⟨#[83, 58]⟩ (fun y hy => HZ1.out y (List.mem_of_mem_take hy))
    have htl : (l.take j).length ≤ 5000 := by simp; omega
    rcases Nat.lt_or_ge j l.length with hlt | hge
    · obtain ⟨z, hz⟩ : ∃ z, l[j]? = some z := ⟨_, List.getElem?_eq_getElem hlt⟩
      obtain ⟨g, off, rfl, -, hgl, c0, c1, -⟩ := (HR1.out.below hb).at hz
      have hzs := HZ1.out z (List.mem_of_getElem? hz)
      have HS : Hid (cT ⟨#[83, 58]⟩ (l.take (j + 1)) = cT ⟨#[83, 58]⟩ (l.take j) ++ ⟨#[32]⟩ ++ z.key ++ ⟨#[47]⟩ ++ sgn z.n) := by
        show cT ⟨#[83, 58]⟩ (l.take (j + 1)) = _
        rw [List.take_add_one, hz]
        exact cT_snoc _ _ _
      clear hz hb
      generalize cT ⟨#[83, 58]⟩ (l.take j) = t at *
      have ht : t.size ≤ 20000000 := by omega
      clear hts htl
      have s1 : (⟨#[32]⟩ : ByteArray).size = 1 := rfl
      have s2 : (⟨#[47]⟩ : ByteArray).size = 1 := rfl
      have p1 : ∀ W : World, (Op.stringOp .add t (⟨#[32]⟩ : ByteArray)).run Try.prog W = .ok (.string (t ++ (⟨#[32]⟩ : ByteArray))) W := fun W => run_string_add_sum W _ _ (by omega)
      have q1 : (t ++ (⟨#[32]⟩ : ByteArray)).size ≤ 20000001 := by rw [size_snoc]; omega
      generalize t ++ (⟨#[32]⟩ : ByteArray) = t1 at *
      have p2 : ∀ W : World, (Op.stringOp .add t1 z.key).run Try.prog W = .ok (.string (t1 ++ z.key)) W := fun W => run_string_add_sum W _ _ (by omega)
      have q2 : (t1 ++ z.key).size ≤ 20001001 := by rw [size_snoc]; omega
      generalize t1 ++ z.key = t2 at *
      have p3 : ∀ W : World, (Op.stringOp .add t2 (⟨#[47]⟩ : ByteArray)).run Try.prog W = .ok (.string (t2 ++ (⟨#[47]⟩ : ByteArray))) W := fun W => run_string_add_sum W _ _ (by omega)
      have q3 : (t2 ++ (⟨#[47]⟩ : ByteArray)).size ≤ 20001002 := by rw [size_snoc]; omega
      generalize t2 ++ (⟨#[47]⟩ : ByteArray) = t3 at *
      have p4 : ∀ W : World, (Op.stringOp .add t3 (sgn z.n)).run Try.prog W = .ok (.string (t3 ++ sgn z.n)) W := fun W => run_string_add_sum W _ _ (by have : (sgn z.n).size = 1 := rfl; omega)
      have pc : (convert 64 9 (.slice (some ⟨wr.heap.size, 0, none⟩) 1 1)).run Try.prog (wr.alloc (.cells #[.int .u8 (z.n : Int)] 5)).drew = .ok (.string (sgn z.n)) (wr.alloc (.cells #[.int .u8 (z.n : Int)] 5)).drew := by
        refine conv_sgn ?_
        have hblk : (wr.alloc (.cells #[.int .u8 (z.n : Int)] 5)).drew.heap[wr.heap.size]? = some (.cells #[.int .u8 (z.n : Int)] 5 (0, 0)) := heap_alloc_new wr _
        rw [cell_of_block hblk]
        rfl
      have c0' := cell_later ((Below.refl _ wr).alloc (Nat.le_refl _) (.cells #[.int .u8 (z.n : Int)] 5)) c0
      have c1' := cell_later ((Below.refl _ wr).alloc (Nat.le_refl _) (.cells #[.int .u8 (z.n : Int)] 5)) c1
      have d0' := cell_later ((Below.refl _ wr).alloc (Nat.le_refl _) (.cells #[.int .u8 (z.n : Int)] 5)) d0
      go_wp2_with fail
      go_region_with (fail)
      all_goals
        have HB2 : Hid (Below w.heap.size w (wr.alloc (.cells #[.int .u8 (z.n : Int)] 5)).drew) := (HB.out.alloc HB.out.size _).drew
        go_wp2_with fail
        go_roundw
        case rel => exact ⟨j + 1, hlt, by go_num, by rw [HS.out], HB2.out⟩
        case measure => simp [intOf]; omega
    · have hj' : j = l.length := by omega
      subst hj'
      rw [List.take_length] at *
      have hcs : (cT ⟨#[83, 58]⟩ l).size ≤ 10000000 := by omega
      generalize hx1 : cT ⟨#[83, 58]⟩ l = x1 at *
      have HX1 : Hid (cT ⟨#[83, 58]⟩ l = x1) := hx1
      clear hx1
      have sz3 : (⟨#[59, 81, 58]⟩ : ByteArray).size = 3 := rfl
      have p1 : ∀ W : World, (Op.stringOp .add x1 (⟨#[59, 81, 58]⟩ : ByteArray)).run Try.prog W = .ok (.string (x1 ++ (⟨#[59, 81, 58]⟩ : ByteArray))) W := fun W => run_string_add_sum W _ _ (by omega)
      have s1 : (x1 ++ (⟨#[59, 81, 58]⟩ : ByteArray)).size ≤ 10000003 := by rw [size_snoc]; omega
      generalize hx3 : x1 ++ (⟨#[59, 81, 58]⟩ : ByteArray) = c3' at *
      have HX3 : Hid (x1 ++ (⟨#[59, 81, 58]⟩ : ByteArray) = c3') := hx3
      clear hx3
      clear hts htl
      go_wp2_with fail
      go_loopw [3, 5] (fun t i wr => ∃ j : Nat, j ≤ zs.length ∧ i = .int .i64 j ∧ t = .string (gT c3' (zs.take j)) ∧ Below w.heap.size w wr) (fun _ i _ => zs.length - (intOf i).toNat)
      case atStart => exact ⟨0, Nat.zero_le _, rfl, rfl, HB.out⟩
      case round =>
        clear d0 d1 p1 hb
        obtain ⟨j, hj, rfl, rfl, hb⟩ := hrel
        have HB : Hid (Below w.heap.size w wr) := hb
        obtain ⟨d0, d1⟩ := HC.out wr hb
        rcases Nat.lt_or_ge j zs.length with hlt | hge
        · obtain ⟨z, hz⟩ : ∃ z, zs[j]? = some z := ⟨_, List.getElem?_eq_getElem hlt⟩
          obtain ⟨g, off, rfl, -, c0, -⟩ := (HR2.out.below hb).at hz
          have hzs := HZ2.out z (List.mem_of_getElem? hz)
          have hts := gT_size (zs.take j) c3' (fun y hy => HZ2.out y (List.mem_of_mem_take hy))
          have htl : (zs.take j).length ≤ 5000 := by simp; omega
          have HS : Hid (gT c3' (zs.take (j + 1)) = gT c3' (zs.take j) ++ ⟨#[32]⟩ ++ z) := by
            show gT c3' (zs.take (j + 1)) = _
            rw [List.take_add_one, hz]
            exact gT_snoc _ _ _
          clear hz hb
          generalize gT c3' (zs.take j) = t at *
          have ht : t.size ≤ 20000000 := by omega
          clear hts htl s1
          go_wp2_with fail
          go_roundw
          case rel => exact ⟨j + 1, hlt, by go_num, by rw [HS.out], HB.out⟩
          case measure => simp [intOf]; omega
        · have hj' : j = zs.length := by omega
          subst hj'
          rw [List.take_length]
          go_wp2_with fail
          go_ret
          exact ⟨by rw [HX1.out, HX3.out]; rfl, HB.out⟩
end
section
variable {D D' : Nat → Prop} {w w' : World} {x : Nat} {s : Stt}
theorem rstate_any (H : RE x s D w) (hs : Small s) (hz : ∀ k, k ∈ s.t1 ∨ k ∈ s.t2 ∨ k ∈ s.b1 → k.size ≤ 1000) :
    Calls Try.prog 14 #[.pointer (some ⟨x, 0, none⟩)] w fun e w' => e = .returned (.string (stT s)) ∧ Below w.heap.size w w' := by
  refine mstate_any H (slOf hs).sm (fun z hm => ?_) (fun z hm => hz z (.inr (.inr hm)))
  obtain ⟨k, hk, rfl⟩ := List.mem_map.1 (show z ∈ s.t1.map (fun k => (⟨k, A.sig s.b1 s.t2 k⟩ : C.It)) from hm)
  exact hz k (.inl hk)
end
end Go.Proofs.Ytcbaalodhgkgmaa
