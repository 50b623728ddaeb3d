/- The document's machine: Keys, Ghosts, State. -/
import Derived.Test.YtbbfckgooligdabRfg
import Derived.Test.YtbbfckgooligdabEo
import Derived.Laws.Concat
namespace Go.Proofs.Ytbbfckgooligdab
open Go.RowKit

section
variable {D D' : Nat → Prop} {w w' : World} {x : Nat} {s : Stt}
set_option maxHeartbeats 2000000 in
theorem rkeys_any (H : RE x s D w) (hs : Small s) :
    Calls Try.prog 28 #[.pointer (some ⟨x, 0, none⟩)] w fun e w' => ∃ ad cap, e = .returned (.slice ad (A.keys s).length cap) ∧ Row (w.heap.size ≤ ·) w' ad cap (A.keys s) ∧ Below w.heap.size w w' := by
  obtain ⟨L, a1, c1, a2, c2, a3, c3, H⟩ := H
  obtain ⟨d0, d1, d2, d3⟩ := H.cells
  have l1 := hs.l1
  have l2 := hs.l3
  have hx := lt_of_block H.top
  have HC : Hid (∀ W, Below w.heap.size w W → W.cell? ⟨x, 0, none⟩ = some (.slice a1 s.t1.length c1) ∧ W.cell? ⟨x, 2, none⟩ = some (.slice a3 s.t2.length c3)) := fun W hb => by
    obtain ⟨p0, p1, p2, p3⟩ := (H.below hb).cells
    exact ⟨p0, p2⟩
  have HH : Hid _ := H
  clear H hs
  go_enter Try.func28, Try.ntmps28
  go_wp2_with fail
  go_region_held3 (fun w' => w'.cell? ⟨x, 0, none⟩ = some (.slice a1 s.t1.length c1) ∧ w'.cell? ⟨x, 2, none⟩ = some (.slice a3 s.t2.length c3)) (first | exact q6 | exact q5 | exact HC.out _ (by first | exact (Below.refl _ _).drew | exact ((Below.refl _ _).alloc (Nat.le_refl _) _).drew | exact ((Below.refl _ _).drew).alloc (Nat.le_refl _) _) | go_keep)
    (first
    | (refine step_append_row (D := fun g => w.heap.size ≤ g) (zs := []) (ks := s.t1) (by rfl) _ _ (by rfl) (by rfl) (Row.bare _) (by rfl) ((HH.out.r1.below (by first | exact ((Below.refl _ _).alloc (Nat.le_refl _) _).drew | exact ((Below.refl _ _).drew).alloc (Nat.le_refl _) _)).src) (by simp; omega) ?_
       intro a5 n5 w5 hr5 hk5
       rw [List.nil_append] at hr5
       have hb5 : Below w.heap.size w w5 := by first | exact (((Below.refl _ w).alloc (Nat.le_refl _) _).drew).trans (hk5.below (by show w.heap.size ≤ (w.alloc _).heap.size; simp) (fun _ h => h)) | exact (((Below.refl _ w).drew).alloc (Nat.le_refl _) _).trans (hk5.below (by simp) (fun _ h => h))
       have hs5 := hb5.size
       replace hr5 := rrow_old hr5 (by first | (show w.heap.size ≤ (w.alloc _).heap.size; simp) | simp)
       have q5 := HC.out _ hb5
       simp only [List.length_nil, Nat.zero_add])
    | (refine step_append_row (D := fun g => w.heap.size ≤ g) (zs := s.t1) (ks := s.t2) (by rfl) _ _ (by rfl) (by rfl) hr5 (by rfl) ((HH.out.r3.below hb5).src) (by omega) ?_
       intro a6 n6 w6 hr6 hk6
       have hb6 : Below w.heap.size w w6 := hb5.trans (hk6.below hs5 (fun _ h => h))
       replace hr6 := rrow_old hr6 hs5
       have q6 := HC.out _ hb6))
  go_wp2_with fail
  go_ret
  rw [A.keys_length]
  exact ⟨_, _, rfl, hr6, hb6⟩
end
/-- a row as a text -/
def txt (nm : ByteArray) (zs : List ByteArray) : ByteArray := zs.foldl (fun t z => t ++ ⟨#[32]⟩ ++ z) (nm ++ ⟨#[58]⟩)
theorem txt_snoc (nm : ByteArray) (zs : List ByteArray) (z : ByteArray) : txt nm (zs ++ [z]) = txt nm zs ++ ⟨#[32]⟩ ++ z := by simp [txt]
theorem size_snoc (a b : ByteArray) : (a ++ b).size = a.size + b.size := by simp
theorem txt_size (nm : ByteArray) : ∀ (zs : List ByteArray), (∀ z ∈ zs, z.size ≤ 1000) → (txt nm zs).size ≤ nm.size + 1 + 1001 * zs.length := by
  intro zs
  suffices h : ∀ (t : ByteArray), (∀ z ∈ zs, z.size ≤ 1000) → (zs.foldl (fun t z => t ++ ⟨#[32]⟩ ++ z) t).size ≤ t.size + 1001 * zs.length by
    intro hz
    have h2 := h (nm ++ ⟨#[58]⟩) hz
    rw [size_snoc] at h2
    exact h2
  induction zs with
  | nil => intro t _; simp
  | cons a l ih =>
    intro t hz
    rw [List.foldl_cons]
    have h1 := ih (t ++ ⟨#[32]⟩ ++ a) (fun z h => hz z (List.mem_cons_of_mem _ h))
    have h2 := hz a List.mem_cons_self
    rw [size_snoc, size_snoc] at h1
    have h3 : (⟨#[32]⟩ : ByteArray).size = 1 := rfl
    rw [List.length_cons]
    omega
section
variable {D D' : Nat → Prop} {w w' : World} {ad : Option Addr} {cap : Nat} {zs : List ByteArray}
set_option maxHeartbeats 1000000 in
theorem rtext_any (H : Row D w ad cap zs) (hn : zs.length ≤ 10000) (hz : ∀ z ∈ zs, z.size ≤ 1000) (nm : ByteArray) (hnm : nm.size ≤ 100) :
    Calls Try.prog 50 #[.string nm, .slice ad zs.length cap] w fun e w' => e = .returned (.string (txt nm zs)) ∧ w' = w := by
  have HH : Hid (Row D w ad cap zs) := H
  have HZ : Hid (∀ z ∈ zs, z.size ≤ 1000) := hz
  clear H hz
  go_enter Try.func50, Try.ntmps50
  go_wp2
  go_loop [5, 6] (fun t i => ∃ j : Nat, j ≤ zs.length ∧ i = .int .i64 j ∧ t = .string (txt nm (zs.take j))) (fun _ i => zs.length - (intOf i).toNat)
  case atStart => exact ⟨0, Nat.zero_le _, rfl, rfl⟩
  case round =>
    obtain ⟨j, hj, rfl, rfl⟩ := hrel
    rcases Nat.lt_or_ge j zs.length with hlt | hge
    · obtain ⟨z, hz⟩ : ∃ z, zs[j]? = some z := ⟨_, List.getElem?_eq_getElem hlt⟩
      obtain ⟨g, off, rfl, -, c0, -⟩ := HH.out.at hz
      have hzs := HZ.out z (List.mem_of_getElem? hz)
      have hts := txt_size nm (zs.take j) (fun y hy => HZ.out y (List.mem_of_mem_take hy))
      have htl : (zs.take j).length ≤ 10000 := by simp; omega
      have HS : Hid (txt nm (zs.take (j + 1)) = txt nm (zs.take j) ++ ⟨#[32]⟩ ++ z) := by
        show txt nm (zs.take (j + 1)) = _
        rw [List.take_add_one, hz]
        exact txt_snoc _ _ _
      clear hz
      generalize txt nm (zs.take j) = t at *
      have ht : t.size ≤ 20000000 := by omega
      clear hts htl
      go_wp2
      go_round
      case rel => exact ⟨j + 1, hlt, by go_num, by rw [HS.out]⟩
      case measure => simp [intOf]; omega
    · have hj' : j = zs.length := by omega
      subst hj'
      go_wp2
      go_ret
      exact ⟨rfl, rfl⟩
end
theorem bytes_app (a b : ByteArray) : (a ++ b).data.toList = a.data.toList ++ b.data.toList := by simp
theorem txt_bytes (nm : ByteArray) : ∀ (zs : List ByteArray), (txt nm zs).data.toList = nm.data.toList ++ [58] ++ rowB zs := by
  intro zs
  unfold txt
  suffices h : ∀ (t : ByteArray), (zs.foldl (fun t z => t ++ ⟨#[32]⟩ ++ z) t).data.toList = t.data.toList ++ rowB zs by
    rw [h, bytes_app]
  induction zs with
  | nil => intro t; simp [rowB]
  | cons z l ih =>
    intro t
    rw [List.foldl_cons, ih, bytes_app, bytes_app]
    simp [rowB]
/-- the machine's text -/
def stT (s : Stt) : ByteArray := txt ⟨#[65, 49, 105, 110]⟩ s.t1 ++ ⟨#[59]⟩ ++ txt ⟨#[65, 49, 111, 117, 116]⟩ s.b1 ++ ⟨#[59]⟩ ++ txt ⟨#[65, 109]⟩ s.t2
theorem stT_eq (s : Stt) : stT s = ⟨(stB (qs s) 3).toArray⟩ := by
  have h : (stT s).data.toList = stB (qs s) 3 := by
    unfold stT
    simp only [bytes_app, txt_bytes]
    simp [stB, List.range, List.range.loop, oneB, nameB, qs]
  rw [← h]
section
variable {D D' : Nat → Prop} {w w' : World} {x : Nat} {s : Stt}
set_option maxRecDepth 20000 in
set_option maxHeartbeats 2000000 in
theorem rstate_any (H : RE x s D w) (hs : Small s) (hz : ∀ k, k ∈ s.t1 ∨ k ∈ s.t2 ∨ k ∈ s.b1 → k.size ≤ 1000) :
    Calls Try.prog 27 #[.pointer (some ⟨x, 0, none⟩)] w fun e w' => e = .returned (.string (stT s)) ∧ Below w.heap.size w w' := by
  obtain ⟨L, a1, c1, a2, c2, a3, c3, H⟩ := H
  obtain ⟨d0, d1, d2, d3⟩ := H.cells
  have l1 := hs.l1
  have l2 := hs.l2
  have l3 := hs.l3
  have t1 := fun (_ : Unit) => rtext_any (H.below ((Below.refl _ w)).drew).r1 (by omega) (fun z h => hz z (.inl h)) ⟨#[65, 49, 105, 110]⟩ (by decide)
  have t2 := fun (_ : Unit) => rtext_any (H.below ((Below.refl _ w)).drew).r2 (by omega) (fun z h => hz z (.inr (.inr h))) ⟨#[65, 49, 111, 117, 116]⟩ (by decide)
  have t3 := fun (_ : Unit) => rtext_any (H.below ((Below.refl _ w)).drew).r3 (by omega) (fun z h => hz z (.inr (.inl h))) ⟨#[65, 109]⟩ (by decide)
  have z1 := txt_size ⟨#[65, 49, 105, 110]⟩ s.t1 (fun z h => hz z (.inl h))
  have z2 := txt_size ⟨#[65, 49, 111, 117, 116]⟩ s.b1 (fun z h => hz z (.inr (.inr h)))
  have z3 := txt_size ⟨#[65, 109]⟩ s.t2 (fun z h => hz z (.inr (.inl h)))
  have e1 : (⟨#[65, 49, 105, 110]⟩ : ByteArray).size = 4 := rfl
  have e2 : (⟨#[65, 49, 111, 117, 116]⟩ : ByteArray).size = 5 := rfl
  have e3 : (⟨#[65, 109]⟩ : ByteArray).size = 2 := rfl
  unfold stT
  generalize txt ⟨#[65, 49, 105, 110]⟩ s.t1 = x1 at *
  generalize txt ⟨#[65, 49, 111, 117, 116]⟩ s.b1 = x2 at *
  generalize txt ⟨#[65, 109]⟩ s.t2 = x3 at *
  have y1 : x1.size ≤ 5000000 := by omega
  have y2 : x2.size ≤ 5000000 := by omega
  have y3 : x3.size ≤ 5000000 := by omega
  clear z1 z2 z3 e1 e2 e3 H hs hz
  have sz : (⟨#[59]⟩ : ByteArray).size = 1 := rfl
  have p1 : ∀ W : World, (Op.stringOp .add x1 (⟨#[59]⟩ : ByteArray)).run Try.prog W = .ok (.string (x1 ++ (⟨#[59]⟩ : ByteArray))) W := fun W => run_string_add_sum W _ _ (by omega)
  have s1 : (x1 ++ (⟨#[59]⟩ : ByteArray)).size ≤ 5000001 := by rw [size_snoc]; omega
  generalize hc1 : x1 ++ (⟨#[59]⟩ : ByteArray) = c1' at *
  have p2 : ∀ W : World, (Op.stringOp .add c1' x2).run Try.prog W = .ok (.string (c1' ++ x2)) W := fun W => run_string_add_sum W _ _ (by omega)
  have s2 : (c1' ++ x2).size ≤ 10000001 := by rw [size_snoc]; omega
  generalize hc2 : c1' ++ x2 = c2' at *
  have p3 : ∀ W : World, (Op.stringOp .add c2' (⟨#[59]⟩ : ByteArray)).run Try.prog W = .ok (.string (c2' ++ (⟨#[59]⟩ : ByteArray))) W := fun W => run_string_add_sum W _ _ (by omega)
  have s3 : (c2' ++ (⟨#[59]⟩ : ByteArray)).size ≤ 10000002 := by rw [size_snoc]; omega
  generalize hc3 : c2' ++ (⟨#[59]⟩ : ByteArray) = c3' at *
  have p4 : ∀ W : World, (Op.stringOp .add c3' x3).run Try.prog W = .ok (.string (c3' ++ x3)) W := fun W => run_string_add_sum W _ _ (by omega)
  generalize hc4 : c3' ++ x3 = c4' at *
  clear hc1 hc2 hc3 hc4 s1 s2 s3 sz y1 y2 y3
  go_enter Try.func27, Try.ntmps27
  go_wp2_with fail
  go_region_held3 (fun w' => w'.cell? ⟨x, 0, none⟩ = some (.slice a1 s.t1.length c1) ∧ w'.cell? ⟨x, 1, none⟩ = some (.slice a2 s.b1.length c2) ∧ w'.cell? ⟨x, 2, none⟩ = some (.slice a3 s.t2.length c3)) (first | exact ⟨d0, d1, d2⟩ | go_keep)
    (first
    | (go_at_call 50; refine (t1 ()).mono ?_; clear t1; rintro e w1 ⟨rfl, rfl⟩)
    | (go_at_call 50; refine (t2 ()).mono ?_; clear t2; rintro e w1 ⟨rfl, rfl⟩)
    | (go_at_call 50; refine (t3 ()).mono ?_; clear t3; rintro e w1 ⟨rfl, rfl⟩))
  all_goals
    go_wp2_with fail
    go_ret
    exact ⟨rfl, (Below.refl _ _).drew⟩
end
end Go.Proofs.Ytbbfckgooligdab
