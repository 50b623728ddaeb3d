/- The document's machine: a row as a text, State. -/
import Derived.Test.YtnbfokmodjgaaabDoorRfk
import Derived.Laws.Concat
import Derived.Laws.IdiomStrings
import Derived.StillTailTactics
namespace Go.Proofs.YtnbfokmodjgaaabDoor
open Go.RowKit

/-- a number below ten, as a text -/
def dig (n : Nat) : ByteArray := ⟨#[UInt8.ofNat (48 + n)]⟩
/-- a row as a text -/
def txt (nm : ByteArray) (zs : List Ls.It) : ByteArray := zs.foldl (fun t z => t ++ ⟨#[32]⟩ ++ z.key ++ ⟨#[47]⟩ ++ dig z.n) (nm ++ ⟨#[58]⟩)
theorem txt_snoc (nm : ByteArray) (zs : List Ls.It) (z : Ls.It) : txt nm (zs ++ [z]) = txt nm zs ++ ⟨#[32]⟩ ++ z.key ++ ⟨#[47]⟩ ++ dig z.n := by simp [txt]
theorem size_snoc (a b : ByteArray) : (a ++ b).size = a.size + b.size := by simp
theorem txt_size (nm : ByteArray) : ∀ (zs : List Ls.It), (∀ z ∈ zs, z.key.size ≤ 1000) → (txt nm zs).size ≤ nm.size + 1 + 1003 * zs.length := by
  intro zs
  suffices h : ∀ (t : ByteArray), (∀ z ∈ zs, z.key.size ≤ 1000) → (zs.foldl (fun t z => t ++ ⟨#[32]⟩ ++ z.key ++ ⟨#[47]⟩ ++ dig z.n) t).size ≤ t.size + 1003 * zs.length by
    intro hz
    have h2 := h (nm ++ ⟨#[58]⟩) hz
    rw [size_snoc] at h2
    exact h2
  induction zs with
  | nil => intro t _; simp
  | cons a l ih =>
    intro t hz
    rw [List.foldl_cons]
    have h1 := ih (t ++ ⟨#[32]⟩ ++ a.key ++ ⟨#[47]⟩ ++ dig a.n) (fun z h => hz z (List.mem_cons_of_mem _ h))
    have h2 := hz a List.mem_cons_self
    rw [size_snoc, size_snoc, size_snoc, size_snoc] at h1
    have h3 : (⟨#[32]⟩ : ByteArray).size = 1 := rfl
    have h4 : (⟨#[47]⟩ : ByteArray).size = 1 := rfl
    have h5 : (dig a.n).size = 1 := rfl
    rw [List.length_cons]
    omega
section
variable {D D' : Nat → Prop} {w w' : World} {ad : Option Addr} {cap : Nat} {zs : List Ls.It}
set_option maxRecDepth 20000 in
set_option maxHeartbeats 2000000 in
theorem rtext_any (H : C.Row D w ad cap zs) (hn : zs.length ≤ 10000) (hz : ∀ z ∈ zs, z.key.size ≤ 1000 ∧ z.n ≤ 3) (nm : ByteArray) (hnm : nm.size ≤ 100) :
    Calls Tryd.prog 52 #[.string nm, .slice ad zs.length cap] w fun e w' => e = .returned (.string (txt nm zs)) ∧ Below w.heap.size w w' := by
  have HH : Hid (C.Row D w ad cap zs) := H
  have HZ : Hid (∀ z ∈ zs, z.key.size ≤ 1000 ∧ z.n ≤ 3) := hz
  clear H hz
  go_enter Tryd.func52, Tryd.ntmps52
  go_wp2_with fail
  go_loopw [5, 6] (fun t i wr => ∃ j : Nat, j ≤ zs.length ∧ i = .int .i64 j ∧ t = .string (txt nm (zs.take j)) ∧ Below w.heap.size w wr) (fun _ i _ => zs.length - (intOf i).toNat)
  case atStart => exact ⟨0, Nat.zero_le _, rfl, rfl, Below.refl _ _⟩
  case round =>
    obtain ⟨j, hj, rfl, rfl, hb⟩ := hrel
    have HB : Hid (Below w.heap.size w wr) := hb
    rcases Nat.lt_or_ge j zs.length with hlt | hge
    · obtain ⟨z, hz⟩ : ∃ z, zs[j]? = some z := ⟨_, List.getElem?_eq_getElem hlt⟩
      obtain ⟨g, off, rfl, -, hgl, c0, c1, -⟩ := (HH.out.below hb).at hz
      obtain ⟨hzs, hz3⟩ := HZ.out z (List.mem_of_getElem? hz)
      have hts := txt_size nm (zs.take j) (fun y hy => (HZ.out y (List.mem_of_mem_take hy)).1)
      have htl : (zs.take j).length ≤ 10000 := by simp; omega
      have HS : Hid (txt nm (zs.take (j + 1)) = txt nm (zs.take j) ++ ⟨#[32]⟩ ++ z.key ++ ⟨#[47]⟩ ++ dig z.n) := by
        show txt nm (zs.take (j + 1)) = _
        rw [List.take_add_one, hz]
        exact txt_snoc _ _ _
      clear hz hb
      generalize txt nm (zs.take j) = t at *
      have ht : t.size ≤ 20000000 := by omega
      clear hts htl
      have s1 : (⟨#[32]⟩ : ByteArray).size = 1 := rfl
      have s2 : (⟨#[47]⟩ : ByteArray).size = 1 := rfl
      have p1 : ∀ W : World, (Op.stringOp .add t (⟨#[32]⟩ : ByteArray)).run Tryd.prog W = .ok (.string (t ++ (⟨#[32]⟩ : ByteArray))) W := fun W => run_string_add_sum W _ _ (by omega)
      have q1 : (t ++ (⟨#[32]⟩ : ByteArray)).size ≤ 20000001 := by rw [size_snoc]; omega
      generalize t ++ (⟨#[32]⟩ : ByteArray) = t1 at *
      have p2 : ∀ W : World, (Op.stringOp .add t1 z.key).run Tryd.prog W = .ok (.string (t1 ++ z.key)) W := fun W => run_string_add_sum W _ _ (by omega)
      have q2 : (t1 ++ z.key).size ≤ 20001001 := by rw [size_snoc]; omega
      generalize t1 ++ z.key = t2 at *
      have p3 : ∀ W : World, (Op.stringOp .add t2 (⟨#[47]⟩ : ByteArray)).run Tryd.prog W = .ok (.string (t2 ++ (⟨#[47]⟩ : ByteArray))) W := fun W => run_string_add_sum W _ _ (by omega)
      have q3 : (t2 ++ (⟨#[47]⟩ : ByteArray)).size ≤ 20001002 := by rw [size_snoc]; omega
      generalize t2 ++ (⟨#[47]⟩ : ByteArray) = t3 at *
      have p4 : ∀ W : World, (Op.stringOp .add t3 (dig z.n)).run Tryd.prog W = .ok (.string (t3 ++ dig z.n)) W := fun W => run_string_add_sum W _ _ (by have : (dig z.n).size = 1 := rfl; omega)
      have hw48 : IntKind.i64.wrap (48 + (z.n : Int)) = 48 + (z.n : Int) := by rw [IntKind.wrap_i64]; omega
      have hw8 : IntKind.u8.wrap (48 + (z.n : Int)) = 48 + (z.n : Int) := by
        have : z.n = 0 ∨ z.n = 1 ∨ z.n = 2 ∨ z.n = 3 := by omega
        rcases this with h | h | h | h <;> rw [h] <;> rfl
      have hu8 : (UInt8.ofNat (48 + z.n)).toNat = 48 + z.n := by simp; omega
      have pc : (convert 60 9 (.slice (some ⟨wr.heap.size, 0, none⟩) 1 1)).run Tryd.prog (wr.alloc (.cells #[.int .u8 (48 + (z.n : Int))] 5)).drew = .ok (.string (dig z.n)) (wr.alloc (.cells #[.int .u8 (48 + (z.n : Int))] 5)).drew := by
        refine run_convert_bytes_back (P := Tryd.prog) _ _ _ _ _ _ [UInt8.ofNat (48 + z.n)] Tryd.underlying60 Tryd.underlying5 Tryd.underlying9 (fun i hi => ?_)
        have h0 : i = 0 := by simpa using hi
        subst h0
        have hblk : (wr.alloc (.cells #[.int .u8 (48 + (z.n : Int))] 5)).drew.heap[wr.heap.size]? = some (.cells #[.int .u8 (48 + (z.n : Int))] 5 (0, 0)) := heap_alloc_new wr _
        rw [Addr.add_lit, cell_of_block hblk]
        simp only [List.getElem_cons_zero, hu8]
        simp
      clear hu8
      have c0' := cell_later ((Below.refl _ wr).alloc (Nat.le_refl _) (.cells #[.int .u8 (48 + (z.n : Int))] 5)) c0
      have c1' := cell_later ((Below.refl _ wr).alloc (Nat.le_refl _) (.cells #[.int .u8 (48 + (z.n : Int))] 5)) c1
      go_wp2_with fail
      go_region_with (fail)
      all_goals
        have HB2 : Hid (Below w.heap.size w (wr.alloc (.cells #[.int .u8 (48 + (z.n : Int))] 5)).drew) := (HB.out.alloc HB.out.size _).drew
        go_wp2_with fail
        go_roundw
        case rel => exact ⟨j + 1, hlt, by go_num, by rw [HS.out], HB2.out⟩
        case measure => simp [intOf]; omega
    · have hj' : j = zs.length := by omega
      subst hj'
      rw [List.take_length]
      go_wp2_with fail
      go_ret
      exact ⟨rfl, HB.out⟩
end
theorem bytes_app (a b : ByteArray) : (a ++ b).data.toList = a.data.toList ++ b.data.toList := by simp
theorem dig_bytes {n : Nat} (h : n ≤ 3) : (dig n).data.toList = Lib.decDigits n := by
  have : n = 0 ∨ n = 1 ∨ n = 2 ∨ n = 3 := by omega
  rcases this with h | h | h | h <;> subst h <;> (rw [Lib.decDigits, dif_pos (by omega)]; rfl)
theorem txt_bytes (nm : ByteArray) {r : Nat} (hr : r ≠ 2) : ∀ (zs : List Ls.It), (∀ z ∈ zs, z.n ≤ 3) → (txt nm zs).data.toList = nm.data.toList ++ [58] ++ rowI r zs := by
  intro zs
  unfold txt
  suffices h : ∀ (t : ByteArray), (∀ z ∈ zs, z.n ≤ 3) → (zs.foldl (fun t z => t ++ ⟨#[32]⟩ ++ z.key ++ ⟨#[47]⟩ ++ dig z.n) t).data.toList = t.data.toList ++ rowI r zs by
    intro hz
    rw [h _ hz, bytes_app]
  induction zs with
  | nil => intro t _; simp [rowI]
  | cons z l ih =>
    intro t hz
    rw [List.foldl_cons, ih _ (fun y hy => hz y (List.mem_cons_of_mem _ hy)), bytes_app, bytes_app, bytes_app, bytes_app, dig_bytes (hz z List.mem_cons_self)]
    simp [rowI, itB, hr]
/-- texts behind a text -/
def gT (t : ByteArray) (zs : List ByteArray) : ByteArray := zs.foldl (fun t z => t ++ ⟨#[32]⟩ ++ z) t
theorem gT_snoc (t : ByteArray) (zs : List ByteArray) (z : ByteArray) : gT t (zs ++ [z]) = gT t zs ++ ⟨#[32]⟩ ++ z := by simp [gT]
theorem gT_size : ∀ (zs : List ByteArray) (t : ByteArray), (∀ z ∈ zs, z.size ≤ 1000) → (gT t zs).size ≤ t.size + 1001 * zs.length := by
  intro zs
  induction zs with
  | nil => intro t _; simp [gT]
  | cons a l ih =>
    intro t hz
    have h1 := ih (t ++ ⟨#[32]⟩ ++ a) (fun z h => hz z (List.mem_cons_of_mem _ h))
    have h2 := hz a List.mem_cons_self
    rw [size_snoc, size_snoc] at h1
    have h3 : (⟨#[32]⟩ : ByteArray).size = 1 := rfl
    rw [List.length_cons]
    show (gT (t ++ ⟨#[32]⟩ ++ a) l).size ≤ _
    omega
theorem gT_bytes : ∀ (zs : List Ls.It) (t : ByteArray), (gT t (A.ks zs)).data.toList = t.data.toList ++ rowI 2 zs := by
  intro zs
  induction zs with
  | nil => intro t; simp [gT, rowI, A.ks]
  | cons z l ih =>
    intro t
    show (gT (t ++ ⟨#[32]⟩ ++ z.key) (A.ks l)).data.toList = _
    rw [ih, bytes_app, bytes_app]
    simp [rowI, itB]
/-- two rows told, one law for both calls -/
theorem text_both {w : World} {nm1 nm2 r1 r2 : ByteArray} {v1 v2 : Value} (h1 : ∀ W, Below w.heap.size w W → Calls Tryd.prog 52 #[.string nm1, v1] W fun e w' => e = .returned (.string r1) ∧ Below W.heap.size W w')
    (h2 : ∀ W, Below w.heap.size w W → Calls Tryd.prog 52 #[.string nm2, v2] W fun e w' => e = .returned (.string r2) ∧ Below W.heap.size W w') (W : World) (hb : Below w.heap.size w W) (n : ByteArray) (v : Value) (r : ByteArray) (h : (n = nm1 ∧ v = v1 ∧ r = r1) ∨ (n = nm2 ∧ v = v2 ∧ r = r2)) :
    Calls Tryd.prog 52 #[.string n, v] W fun e w' => e = .returned (.string r) ∧ Below W.heap.size W w' := by
  rcases h with ⟨rfl, rfl, rfl⟩ | ⟨rfl, rfl, rfl⟩
  · exact h1 W hb
  · exact h2 W hb
/-- the machine's text -/
def stT (s : Stt) : ByteArray := gT (txt ⟨#[83]⟩ s.t1 ++ ⟨#[59]⟩ ++ txt ⟨#[77]⟩ s.t2 ++ ⟨#[59, 71, 58]⟩) (A.ks s.b1)
theorem stT_eq {s : Stt} (hf : ∀ z ∈ s.t1 ++ s.t2, z.n ≤ 3) : stT s = ⟨(stB (qs s) 3).toArray⟩ := by
  have h : (stT s).data.toList = stB (qs s) 3 := by
    unfold stT
    rw [gT_bytes, bytes_app, bytes_app, bytes_app, txt_bytes _ (r := 0) (by omega) _ (fun z hz => hf z (by simp [hz])), txt_bytes _ (r := 1) (by omega) _ (fun z hz => hf z (by simp [hz]))]
    simp [stB, List.range, List.range.loop, oneB, nameB, qs]
  rw [← h]
section
variable {D D' : Nat → Prop} {w w' : World} {x : Nat} {s : Stt}
set_option maxRecDepth 20000 in
set_option maxHeartbeats 4000000 in
theorem rstate_any (H : RE x s D w) (hs : Small s) (hf : ∀ z ∈ s.t1 ++ s.t2, z.n ≤ 3) (hz : ∀ k, k ∈ A.ks s.t1 ∨ k ∈ A.ks s.t2 ∨ k ∈ A.ks s.b1 → k.size ≤ 1000) :
    Calls Tryd.prog 27 #[.pointer (some ⟨x, 0, none⟩)] w fun e w' => e = .returned (.string (stT s)) ∧ Below w.heap.size w w' := by
  obtain ⟨L, a1, c1, a2, c2, a3, c3, H⟩ := H
  have l1 := hs.l1
  have l2 := hs.l2
  have l3 := hs.l3
  have f1 : ∀ z ∈ s.t1, z.key.size ≤ 1000 ∧ z.n ≤ 3 := fun z h => ⟨hz _ (.inl (A.ks_mem.2 ⟨z, h, rfl⟩)), hf z (by simp [h])⟩
  have f2 : ∀ z ∈ s.t2, z.key.size ≤ 1000 ∧ z.n ≤ 3 := fun z h => ⟨hz _ (.inr (.inl (A.ks_mem.2 ⟨z, h, rfl⟩))), hf z (by simp [h])⟩
  have HZ3 : Hid (∀ z ∈ A.ks s.b1, z.size ≤ 1000) := fun z h => hz z (.inr (.inr h))
  have HC : Hid (∀ W, Below w.heap.size w W → W.cell? ⟨x, 0, none⟩ = some (.slice a1 s.t1.length c1) ∧ W.cell? ⟨x, 1, none⟩ = some (.slice a2 s.t2.length c2) ∧ W.cell? ⟨x, 2, none⟩ = some (.slice a3 (A.ks s.b1).length c3)) := fun W hb => by
    obtain ⟨p0, p1, p2, p3⟩ := (H.below hb).cells
    exact ⟨p0, p1, p2⟩
  have T1 : Hid (∀ W, Below w.heap.size w W → Calls Tryd.prog 52 #[.string ⟨#[83]⟩, .slice a1 s.t1.length c1] W fun e w' => e = .returned (.string (txt ⟨#[83]⟩ s.t1)) ∧ Below W.heap.size W w') := fun W hb => rtext_any (H.below hb).r1 (by omega) f1 ⟨#[83]⟩ (by decide)
  have T2 : Hid (∀ W, Below w.heap.size w W → Calls Tryd.prog 52 #[.string ⟨#[77]⟩, .slice a2 s.t2.length c2] W fun e w' => e = .returned (.string (txt ⟨#[77]⟩ s.t2)) ∧ Below W.heap.size W w') := fun W hb => rtext_any (H.below hb).r2 (by omega) f2 ⟨#[77]⟩ (by decide)
  have HR3 : Hid (Row (fun g => D g ∧ L g = 3) w a3 c3 (A.ks s.b1)) := H.r3
  have z1 := txt_size ⟨#[83]⟩ s.t1 (fun z h => (f1 z h).1)
  have z2 := txt_size ⟨#[77]⟩ s.t2 (fun z h => (f2 z h).1)
  have e1 : (⟨#[83]⟩ : ByteArray).size = 1 := rfl
  have e2 : (⟨#[77]⟩ : ByteArray).size = 1 := rfl
  unfold stT
  have y1 : (txt ⟨#[83]⟩ s.t1).size ≤ 5000000 := by omega
  have y2 : (txt ⟨#[77]⟩ s.t2).size ≤ 5000000 := by omega
  clear z1 z2 e1 e2 H hs hz f1 f2 hf
  generalize txt ⟨#[83]⟩ s.t1 = x1 at *
  generalize txt ⟨#[77]⟩ s.t2 = x2 at *
  generalize A.ks s.b1 = zs at *
  generalize s.t1.length = n1 at *
  generalize s.t2.length = n2 at *
  have sz : (⟨#[59]⟩ : ByteArray).size = 1 := rfl
  have sz3 : (⟨#[59, 71, 58]⟩ : ByteArray).size = 3 := rfl
  have p1 : ∀ W : World, (Op.stringOp .add x1 (⟨#[59]⟩ : ByteArray)).run Tryd.prog W = .ok (.string (x1 ++ (⟨#[59]⟩ : ByteArray))) W := fun W => run_string_add_sum W _ _ (by omega)
  have s1 : (x1 ++ (⟨#[59]⟩ : ByteArray)).size ≤ 5000001 := by rw [size_snoc]; omega
  generalize x1 ++ (⟨#[59]⟩ : ByteArray) = c1' at *
  have p2 : ∀ W : World, (Op.stringOp .add c1' x2).run Tryd.prog W = .ok (.string (c1' ++ x2)) W := fun W => run_string_add_sum W _ _ (by omega)
  have s2 : (c1' ++ x2).size ≤ 10000001 := by rw [size_snoc]; omega
  generalize c1' ++ x2 = c2' at *
  have p3 : ∀ W : World, (Op.stringOp .add c2' (⟨#[59, 71, 58]⟩ : ByteArray)).run Tryd.prog W = .ok (.string (c2' ++ (⟨#[59, 71, 58]⟩ : ByteArray))) W := fun W => run_string_add_sum W _ _ (by omega)
  have s3 : (c2' ++ (⟨#[59, 71, 58]⟩ : ByteArray)).size ≤ 10000004 := by rw [size_snoc]; omega
  generalize c2' ++ (⟨#[59, 71, 58]⟩ : ByteArray) = c3' at *
  clear s1 s2 sz sz3 y1 y2 l1 l2
  have TB : Hid _ := text_both T1.out T2.out
  clear T1 T2
  obtain ⟨d0, d1, d2⟩ := HC.out w (Below.refl _ _)
  go_enter Tryd.func27, Tryd.ntmps27
  go_wp2_with fail
  go_region_held3 (fun w' => w'.cell? ⟨x, 0, none⟩ = some (.slice a1 n1 c1) ∧ w'.cell? ⟨x, 1, none⟩ = some (.slice a2 n2 c2)) (first | exact ⟨d0, d1⟩ | exact ⟨u0, u1⟩ | exact ⟨v0, v1⟩ | go_keep)
    (first
    | (go_at_call 52; refine (TB.out _ HB1.out _ _ _ (by first | exact .inr ⟨rfl, rfl, rfl⟩)).mono ?_; rintro e w2 ⟨rfl, hb2⟩; have HB2 : Hid (Below w.heap.size w w2) := (below_trans' HB1.out hb2); obtain ⟨v0, v1, v2⟩ := HC.out w2 HB2.out; clear hb2)
    | (go_at_call 52; refine (TB.out _ (Below.refl _ _).drew _ _ _ (by first | exact .inl ⟨rfl, rfl, rfl⟩)).mono ?_; rintro e w1 ⟨rfl, hb1⟩; have HB1 : Hid (Below w.heap.size w w1) := (below_trans' (Below.refl _ _).drew hb1); obtain ⟨u0, u1, u2⟩ := HC.out w1 HB1.out; clear hb1))
  all_goals
    go_wp2_with fail
    go_loopw [3, 4] (fun t i wr => ∃ j : Nat, j ≤ zs.length ∧ i = .int .i64 j ∧ t = .string (gT c3' (zs.take j)) ∧ Below w.heap.size w wr) (fun _ i _ => zs.length - (intOf i).toNat)
    case atStart => exact ⟨0, Nat.zero_le _, rfl, rfl, HB2.out⟩
    case round =>
      clear d0 d1 d2 u0 u1 u2 v0 v1 v2
      obtain ⟨j, hj, rfl, rfl, hb⟩ := hrel
      have HB : Hid (Below w.heap.size w wr) := hb
      obtain ⟨d0, d1, d2⟩ := HC.out wr hb
      rcases Nat.lt_or_ge j zs.length with hlt | hge
      · obtain ⟨z, hz⟩ : ∃ z, zs[j]? = some z := ⟨_, List.getElem?_eq_getElem hlt⟩
        obtain ⟨g, off, rfl, -, c0, -⟩ := (HR3.out.below hb).at hz
        have hzs := HZ3.out z (List.mem_of_getElem? hz)
        have hts := gT_size (zs.take j) c3' (fun y hy => HZ3.out y (List.mem_of_mem_take hy))
        have htl : (zs.take j).length ≤ 4100 := by simp; omega
        have HS : Hid (gT c3' (zs.take (j + 1)) = gT c3' (zs.take j) ++ ⟨#[32]⟩ ++ z) := by
          show gT c3' (zs.take (j + 1)) = _
          rw [List.take_add_one, hz]
          exact gT_snoc _ _ _
        clear hz hb
        generalize gT c3' (zs.take j) = t at *
        have ht : t.size ≤ 20000000 := by omega
        clear hts htl s3
        go_wp2_with fail
        go_roundw
        case rel => exact ⟨j + 1, hlt, by go_num, by rw [HS.out], HB.out⟩
        case measure => simp [intOf]; omega
      · have hj' : j = zs.length := by omega
        subst hj'
        rw [List.take_length]
        go_wp2_with fail
        go_ret
        exact ⟨rfl, HB.out⟩
end
end Go.Proofs.YtnbfokmodjgaaabDoor
