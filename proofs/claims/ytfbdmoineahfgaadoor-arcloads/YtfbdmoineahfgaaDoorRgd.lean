/- The document's machine: Keys, Ghosts, New. The document's machine: Load. -/
import Derived.Test.YtfbdmoineahfgaaDoorRgc
import Derived.Test.YtfbdmoineahfgaaDoorEn1
namespace Go.Proofs.YtfbdmoineahfgaaDoor
open Go.RowKit

section
variable {D D' : Nat → Prop} {w w' : World} {x : Nat} {s : Stt}
theorem eng_start (c : Nat) (v : Int) (h : v = c) : some (Obj.cells #[.slice none 0 0, .slice none 0 0, .slice none 0 0, .slice none 0 0, .int .i64 0, .int .i64 v] 61 (0, 0)) = some (Obj.cells (eng (A.start c) none 0 none 0 none 0 none 0) 61 (0, 0)) := by
  subst h
  rfl
theorem rnew_any (r : Int) (hD : ∀ k, w.heap.size ≤ k → D k) :
    Calls Tryd.prog 11 #[.int .i64 r] w fun e w' => ∃ x, e = .returned (.pointer (some ⟨x, 0, none⟩)) ∧ RE x (A.start (heldC r)) D w' ∧ Keeps D w w' := by
  have hc : ((heldC r : Nat) : Int) = min (max r 1) 1024 := by unfold heldC; omega
  go_enter Tryd.func11, Tryd.ntmps11
  go_wp2_with fail
  all_goals
    go_ret
    refine ⟨_, rfl, ⟨fun g => if g = w.heap.size then 0 else 1, none, 0, none, 0, none, 0, none, 0, hD _ (Nat.le_refl _), by simp, ?_, Row.nil, Row.nil, Row.nil, Row.nil⟩, (Keeps.refl D w).alloc _⟩
    rw [heap_alloc_new]
    exact eng_start _ _ (by first | (rw [hc]; done) | (rw [hc]; omega) | (rw [hc]; split <;> omega))
set_option maxHeartbeats 2000000 in
theorem rkeys_any (H : RE x s D w) (hs : Small s) :
    Calls Tryd.prog 19 #[.pointer (some ⟨x, 0, none⟩)] w fun e w' => ∃ ad cap, e = .returned (.slice ad (A.keys s).length cap) ∧ Row (w.heap.size ≤ ·) w' ad cap (A.keys s) ∧ Below w.heap.size w w' := by
  obtain ⟨L, a1, c1, a2, c2, a3, c3, a4, c4, H⟩ := H
  obtain ⟨d0, d1, d2, d3, d4, d5⟩ := H.cells
  have l1 := hs.t1
  have l2 := hs.t2
  have hx := lt_of_block H.top
  have HC : Hid (∀ W, Below w.heap.size w W → W.cell? ⟨x, 0, none⟩ = some (.slice a1 s.t1.length c1) ∧ W.cell? ⟨x, 1, none⟩ = some (.slice a2 s.t2.length c2)) := fun W hb => by
    obtain ⟨p0, p1, p2, p3, p4, p5⟩ := (H.below hb).cells
    exact ⟨p0, p1⟩
  have HH : Hid _ := H
  clear H hs
  go_enter Tryd.func19, Tryd.ntmps19
  go_wp2_with fail
  go_region_held3 (fun w' => w'.cell? ⟨x, 0, none⟩ = some (.slice a1 s.t1.length c1) ∧ w'.cell? ⟨x, 1, none⟩ = some (.slice a2 s.t2.length c2)) (first | exact q6 | exact q5 | exact HC.out _ (by first | exact (Below.refl _ _).drew | exact ((Below.refl _ _).alloc (Nat.le_refl _) _).drew | exact ((Below.refl _ _).drew).alloc (Nat.le_refl _) _) | go_keep)
    (first
    | (refine step_append_row (D := fun g => w.heap.size ≤ g) (zs := []) (ks := s.t1) (by rfl) _ _ (by rfl) (by rfl) (Row.bare _) (by rfl) ((HH.out.r1.below (by first | exact ((Below.refl _ _).alloc (Nat.le_refl _) _).drew | exact ((Below.refl _ _).drew).alloc (Nat.le_refl _) _)).src) (by simp; omega) ?_
       intro a5 n5 w5 hr5 hk5
       rw [List.nil_append] at hr5
       have hb5 : Below w.heap.size w w5 := by first | exact (((Below.refl _ w).alloc (Nat.le_refl _) _).drew).trans (hk5.below (by show w.heap.size ≤ (w.alloc _).heap.size; simp) (fun _ h => h)) | exact (((Below.refl _ w).drew).alloc (Nat.le_refl _) _).trans (hk5.below (by simp) (fun _ h => h))
       have hs5 := hb5.size
       replace hr5 := rrow_old hr5 (by first | (show w.heap.size ≤ (w.alloc _).heap.size; simp) | simp)
       have q5 := HC.out _ hb5
       simp only [List.length_nil, Nat.zero_add])
    | (refine step_append_row (D := fun g => w.heap.size ≤ g) (zs := s.t1) (ks := s.t2) (by rfl) _ _ (by rfl) (by rfl) hr5 (by rfl) ((HH.out.r2.below hb5).src) (by omega) ?_
       intro a6 n6 w6 hr6 hk6
       have hb6 : Below w.heap.size w w6 := hb5.trans (hk6.below hs5 (fun _ h => h))
       replace hr6 := rrow_old hr6 hs5
       have q6 := HC.out _ hb6))
  go_wp2_with fail
  go_ret
  rw [A.keys_length]
  exact ⟨_, _, rfl, hr6, hb6⟩
set_option maxHeartbeats 2000000 in
theorem rghosts_any (H : RE x s D w) (hs : Small s) :
    Calls Tryd.prog 21 #[.pointer (some ⟨x, 0, none⟩)] w fun e w' => ∃ ad cap, e = .returned (.slice ad (A.ghosts s).length cap) ∧ Row (w.heap.size ≤ ·) w' ad cap (A.ghosts s) ∧ Below w.heap.size w w' := by
  obtain ⟨L, a1, c1, a2, c2, a3, c3, a4, c4, H⟩ := H
  obtain ⟨d0, d1, d2, d3, d4, d5⟩ := H.cells
  have l1 := hs.b1
  have l2 := hs.b2
  have hx := lt_of_block H.top
  have HC : Hid (∀ W, Below w.heap.size w W → W.cell? ⟨x, 2, none⟩ = some (.slice a3 s.b1.length c3) ∧ W.cell? ⟨x, 3, none⟩ = some (.slice a4 s.b2.length c4)) := fun W hb => by
    obtain ⟨p0, p1, p2, p3, p4, p5⟩ := (H.below hb).cells
    exact ⟨p2, p3⟩
  have HH : Hid _ := H
  clear H hs
  go_enter Tryd.func21, Tryd.ntmps21
  go_wp2_with fail
  go_region_held3 (fun w' => w'.cell? ⟨x, 2, none⟩ = some (.slice a3 s.b1.length c3) ∧ w'.cell? ⟨x, 3, none⟩ = some (.slice a4 s.b2.length c4)) (first | exact q6 | exact q5 | exact HC.out _ (by first | exact (Below.refl _ _).drew | exact ((Below.refl _ _).alloc (Nat.le_refl _) _).drew | exact ((Below.refl _ _).drew).alloc (Nat.le_refl _) _) | go_keep)
    (first
    | (refine step_append_row (D := fun g => w.heap.size ≤ g) (zs := []) (ks := s.b1) (by rfl) _ _ (by rfl) (by rfl) (Row.bare _) (by rfl) ((HH.out.r3.below (by first | exact ((Below.refl _ _).alloc (Nat.le_refl _) _).drew | exact ((Below.refl _ _).drew).alloc (Nat.le_refl _) _)).src) (by simp; omega) ?_
       intro a5 n5 w5 hr5 hk5
       rw [List.nil_append] at hr5
       have hb5 : Below w.heap.size w w5 := by first | exact (((Below.refl _ w).alloc (Nat.le_refl _) _).drew).trans (hk5.below (by show w.heap.size ≤ (w.alloc _).heap.size; simp) (fun _ h => h)) | exact (((Below.refl _ w).drew).alloc (Nat.le_refl _) _).trans (hk5.below (by simp) (fun _ h => h))
       have hs5 := hb5.size
       replace hr5 := rrow_old hr5 (by first | (show w.heap.size ≤ (w.alloc _).heap.size; simp) | simp)
       have q5 := HC.out _ hb5
       simp only [List.length_nil, Nat.zero_add])
    | (refine step_append_row (D := fun g => w.heap.size ≤ g) (zs := s.b1) (ks := s.b2) (by rfl) _ _ (by rfl) (by rfl) hr5 (by rfl) ((HH.out.r4.below hb5).src) (by omega) ?_
       intro a6 n6 w6 hr6 hk6
       have hb6 : Below w.heap.size w w6 := hb5.trans (hk6.below hs5 (fun _ h => h))
       replace hr6 := rrow_old hr6 hs5
       have q6 := HC.out _ hb6))
  go_wp2_with fail
  go_ret
  rw [A.ghosts_length]
  exact ⟨_, _, rfl, hr6, hb6⟩
end
end Go.Proofs.YtfbdmoineahfgaaDoor
namespace Go.Proofs.YtfbdmoineahfgaaDoor
open Go.RowKit

/-- how long the row at a cell is -/
def lenAt (w : World) (x i : Nat) : Nat := match w.cell? ⟨x, i, none⟩ with | some (.slice _ n _) => n | _ => 0
section
variable {D D' : Nat → Prop} {w w' : World} {x : Nat} {s : Stt}
theorem RE.len3 (H : RE x s D w) : lenAt w x 2 = s.b1.length := by
  obtain ⟨L, a1, c1, a2, c2, a3, c3, a4, c4, H⟩ := H
  obtain ⟨d0, d1, d2, -⟩ := H.cells
  simp [lenAt, d2]
theorem RE.len4 (H : RE x s D w) : lenAt w x 3 = s.b2.length := by
  obtain ⟨L, a1, c1, a2, c2, a3, c3, a4, c4, H⟩ := H
  obtain ⟨d0, d1, d2, d3, -⟩ := H.cells
  simp [lenAt, d3]
/-- the oldest of B1, of B2 goes: what is laid is one of two spellings -/
theorem ReIn.pop3 {L : Nat → Nat} {a1 a2 a4 : Option Addr} {c1 c2 c3 c4 g off : Nat} (H : ReIn D L w x s a1 c1 a2 c2 (some ⟨g, off, none⟩) c3 a4 c4) (hD : ∀ k, w.heap.size ≤ k → D k) {n : Nat} (hn : n = s.b1.tail.length) :
    RE x { s with b1 := s.b1.tail } D (w.setCell ⟨x, 2, none⟩ (.slice (some ⟨g, off + 1, none⟩) n (c3 - 1))) ∧ (c3 = 1 → RE x { s with b1 := s.b1.tail } D (w.setCell ⟨x, 2, none⟩ (.slice (some ⟨g, off, none⟩) n 0))) := by
  subst hn
  refine ⟨?_, fun h => ?_⟩
  · have := H.r3.drop 1
    rw [List.drop_one] at this
    exact ⟨_, _, _, _, _, _, _, _, _, H.put3 hD (Keeps.refl _ _) (this.wide (fun _ _ h => .inl h))⟩
  · have hz := H.r3.1
    have he : s.b1.tail = [] := List.eq_nil_of_length_eq_zero (by rw [List.length_tail]; omega)
    exact ⟨_, _, _, _, _, _, _, _, _, H.put3 hD (Keeps.refl _ _) (by rw [he]; exact Row.bare _)⟩
theorem ReIn.pop4 {L : Nat → Nat} {a1 a2 a3 : Option Addr} {c1 c2 c3 c4 g off : Nat} (H : ReIn D L w x s a1 c1 a2 c2 a3 c3 (some ⟨g, off, none⟩) c4) (hD : ∀ k, w.heap.size ≤ k → D k) {n : Nat} (hn : n = s.b2.tail.length) :
    RE x { s with b2 := s.b2.tail } D (w.setCell ⟨x, 3, none⟩ (.slice (some ⟨g, off + 1, none⟩) n (c4 - 1))) ∧ (c4 = 1 → RE x { s with b2 := s.b2.tail } D (w.setCell ⟨x, 3, none⟩ (.slice (some ⟨g, off, none⟩) n 0))) := by
  subst hn
  refine ⟨?_, fun h => ?_⟩
  · have := H.r4.drop 1
    rw [List.drop_one] at this
    exact ⟨_, _, _, _, _, _, _, _, _, H.put4 hD (Keeps.refl _ _) (this.wide (fun _ _ h => .inl h))⟩
  · have hz := H.r4.1
    have he : s.b2.tail = [] := List.eq_nil_of_length_eq_zero (by rw [List.length_tail]; omega)
    exact ⟨_, _, _, _, _, _, _, _, _, H.put4 hD (Keeps.refl _ _) (by rw [he]; exact Row.bare _)⟩
theorem ReIn.popped3 {L : Nat → Nat} {a1 a2 a4 : Option Addr} {c1 c2 c3 c4 g off : Nat} (H : ReIn D L w x s a1 c1 a2 c2 (some ⟨g, off, none⟩) c3 a4 c4) (hD : ∀ k, w.heap.size ≤ k → D k) {n : Nat} (hn : n = s.b1.tail.length) :
    RE x { s with b1 := s.b1.tail } D (w.setCell ⟨x, 2, none⟩ (.slice (if c3 = 1 then some ⟨g, off, none⟩ else some ⟨g, off + 1, none⟩) n (c3 - 1))) := by
  by_cases h : c3 = 1
  · rw [if_pos h, h]
    exact (H.pop3 hD hn).2 h
  · rw [if_neg h]
    exact (H.pop3 hD hn).1
theorem ReIn.popped4 {L : Nat → Nat} {a1 a2 a3 : Option Addr} {c1 c2 c3 c4 g off : Nat} (H : ReIn D L w x s a1 c1 a2 c2 a3 c3 (some ⟨g, off, none⟩) c4) (hD : ∀ k, w.heap.size ≤ k → D k) {n : Nat} (hn : n = s.b2.tail.length) :
    RE x { s with b2 := s.b2.tail } D (w.setCell ⟨x, 3, none⟩ (.slice (if c4 = 1 then some ⟨g, off, none⟩ else some ⟨g, off + 1, none⟩) n (c4 - 1))) := by
  by_cases h : c4 = 1
  · rw [if_pos h, h]
    exact (H.pop4 hD hn).2 h
  · rw [if_neg h]
    exact (H.pop4 hD hn).1
set_option maxHeartbeats 1000000 in
theorem rload_no (H : RE x s D w) (hs : Small s) (key : ByteArray) (hk : key ∈ A.keys s ∨ s.c ≤ (A.keys s).length) :
    Calls Tryd.prog 37 #[.pointer (some ⟨x, 0, none⟩), .string key] w fun e w' => e = .returned (.bool false) ∧ ∃ q, w' = w.drewN q := by
  have hh := fun q => rhas_key (H.below (below_drewN (Below.refl _ w) q)) hs key
  have hlen := fun q => rlen_any (H.below (below_drewN (Below.refl _ w) q)) hs
  obtain ⟨L, a1, c1, a2, c2, a3, c3, a4, c4, H⟩ := H
  obtain ⟨d0, d1, d2, d3, d4, d5⟩ := H.cells
  have hhi := hs.hi
  by_cases h1 : key ∈ A.keys s
  · rw [inn_yes h1] at hh
    clear H hs
    go_enter Tryd.func37, Tryd.ntmps37
    go_wp2_with fail
    go_quiet (first | (go_at_call 40; refine Calls.quiet_of_same (hh _)) | (go_at_call 16; refine Calls.quiet_of (hlen _)))
    go_wp2_with fail
    go_ret
    exact ⟨rfl, _, rfl⟩
  · rw [inn_no h1] at hh
    have h2 : s.c ≤ (A.keys s).length := by rcases hk with h | h; exact absurd h h1; exact h
    generalize (A.keys s).length = n at *
    generalize s.c = c at *
    have hd : decide ((c : Int) ≤ (n : Int)) = true := decide_eq_true (by omega)
    clear H hs
    go_enter Tryd.func37, Tryd.ntmps37
    go_wp2_with fail
    go_quiet (first | (go_at_call 40; refine Calls.quiet_of_same (hh _)) | (go_at_call 16; refine Calls.quiet_of (hlen _)))
    go_wp2_with fail
    go_ret
    exact ⟨rfl, _, rfl⟩
set_option maxRecDepth 20000 in
set_option maxHeartbeats 8000000 in
theorem rload_yes (H : RE x s D w) (hok : A.Ok s) (hD : ∀ k, w.heap.size ≤ k → D k) (key : ByteArray) (hk : key ∉ A.keys s) (hl : (A.keys s).length < s.c) :
    Calls Tryd.prog 37 #[.pointer (some ⟨x, 0, none⟩), .string key] w fun e w' => e = .returned (.bool true) ∧ RE x (A.trim2 (A.trim1 (A.comes s key))) D w' ∧ Keeps D w w' := by
  have hs := Small.of hok
  have hh := fun q => rhas_key (H.below (below_drewN (Below.refl _ w) q)) hs key
  have hlen := fun q => rlen_any (H.below (below_drewN (Below.refl _ w) q)) hs
  rw [inn_no hk] at hh
  obtain ⟨L, a1, c1, a2, c2, a3, c3, a4, c4, H⟩ := H
  obtain ⟨d0, d1, d2, d3, d4, d5⟩ := H.cells
  have hhi := hs.hi
  have hlo := hs.lo
  have l1 := hs.t1
  have l2 := hs.t2
  have l3 := hs.b1
  have l4 := hs.b2
  have hcut1 := fun q => rcut_any (H.below ((below_drewN (Below.refl _ w) q).drew)).r3 (by have := hs.b1; omega) key
  have hcut2 := fun {W : World} (hb : Below w.heap.size w W) => rcut_any (H.below hb).r4 (by have := hs.b2; omega) key
  have hd : decide ((s.c : Int) ≤ ((A.keys s).length : Int)) = false := decide_eq_false (by omega)
  have HT1 : Hid (s.t1.length + 1 ≤ s.c) := by
    have := A.keys_length s
    show s.t1.length + 1 ≤ s.c
    omega
  have HT2 : Hid (s.t1.length + 1 + s.t2.length ≤ s.c) := by
    have := A.keys_length s
    show s.t1.length + 1 + s.t2.length ≤ s.c
    omega
  have HN1 : Hid ((A.comes s key).t1.length = s.t1.length + 1) := by
    show (s.t1 ++ [key]).length = _
    simp
  have HH : Hid _ := H
  generalize (A.keys s).length = n at *
  clear H hs
  go_enter Tryd.func37, Tryd.ntmps37
  go_wp2_with fail
  go_quiet (first | (go_at_call 40; refine Calls.quiet_of_same (hh _)) | (go_at_call 16; refine Calls.quiet_of (hlen _)))
  go_wp2_with fail
  clear hlen hh hd
  go_region_with (first
    | (go_at_call 59; refine (hcut1 _).mono ?_; rintro e w3 ⟨b1, n1, rfl, hr1, hb1⟩; have hbw : Below w.heap.size w w3 := ((below_drewN (Below.refl _ w) _).drew).trans hb1; obtain ⟨u0, u1, u2, u3, u4, u5⟩ := (HH.out.below hbw).cells; have hcut3 := hcut2 hbw; clear hcut1 hcut2)
    | (go_at_call 59; refine hcut3.mono ?_; rintro e w4 ⟨b2, n2, rfl, hr2, hb2⟩; have hbv : Below w.heap.size w w4 := hbw.trans (hb2.mono hbw.size); obtain ⟨p0, p1, p2, p3, p4, p5⟩ := (HH.out.below hbv).cells; obtain ⟨v0, v1, v2, v3, v4, v5⟩ := (HH.out.below hbv).thaw))
  all_goals
    have HB := HH.out.both34 hD hbw hr1 hb2 hr2
    have hkB : Keeps D w ((w4.setCell ⟨x, 2, none⟩ (.slice b1 (A.cut s.b1 key).length n1)).setCell ⟨x, 3, none⟩ (.slice b2 (A.cut s.b2 key).length n2)) := (((Keeps.of_below hbv).setCell (p := ⟨x, 2, none⟩) HH.out.dx _).setCell (p := ⟨x, 3, none⟩) HH.out.dx _)
    clear u0 u1 u2 u3 u4 u5 p0 p1 p2 p3 p4 p5 v0 v1 v2 v3 v4 v5 hcut3 hr1 hr2 hb1 hb2 hbw hbv d0 d1 d2 d3 d4 d5
    generalize (w4.setCell ⟨x, 2, none⟩ (.slice b1 (A.cut s.b1 key).length n1)).setCell ⟨x, 3, none⟩ (.slice b2 (A.cut s.b2 key).length n2) = W at *
    obtain ⟨L2, e1, m1, e2, m2, e3, m3, e4, m4, HR⟩ := HB
    have e0 : (W.alloc (.cells #[] 9)).cell? ⟨x, 0, none⟩ = some (.slice e1 s.t1.length m1) := (HR.below ((Below.refl _ W).alloc (Nat.le_refl _) _)).cells.1
    have HX : Hid _ := HR
    have hD2 : ∀ k, W.heap.size ≤ k → D k := fun k h => hD k (Nat.le_trans hkB.size h)
    clear HR
    go_wp2_with (first
      | (at_builtin; (refine wpList_append_row (zs := []) (ks := s.t1) (D := fun g => W.heap.size ≤ g) rfl _ _ rfl rfl (Row.bare _) (vx := .slice e1 s.t1.length m1) rfl ((HX.out.r1.below ((Below.refl _ W).alloc (Nat.le_refl _) _)).src) (by simp; omega) ?_); intro a5 n5 w5 hr5 hk5; rw [List.nil_append] at hr5; have hb5 : Below W.heap.size W w5 := ((Below.refl _ W).alloc (Nat.le_refl _) _).trans (hk5.below (by simp) (fun _ h => h)); have hs5 := hb5.size; replace hr5 := rrow_old hr5 (by simp); simp only [List.length_nil, Nat.zero_add]; clear hk5 e0)
      | (at_builtin; go_must (refine wpList_append_row (zs := s.t1) (ks := [key]) rfl _ _ rfl rfl (hr5.below ((Below.refl _ _).alloc (Nat.le_refl _) _)) rfl (src_one _ key) (by simp; omega) ?_); intro a6 n6 w6 hr6 hk6; have hb6 : Below W.heap.size W w6 := (hb5.alloc hs5 _).trans (hk6.below (by simp; omega) (fun _ h => h)); replace hr6 := rrow_old hr6 (by simp; omega); have H6 := HX.out.put1 hD2 (.of_below hb6) (hr6.wide (fun _ _ h => .inr h)); obtain ⟨u0, u1, u2, u3, u4, u5⟩ := (HX.out.below hb6).cells; obtain ⟨v0, v1, v2, v3, v4, v5⟩ := (HX.out.below hb6).thaw; clear hk6 hr5))
    simp only [List.length_append, List.length_cons, List.length_nil, Nat.zero_add] at H6
    have hk7 : Keeps D w (w6.setCell ⟨x, 0, none⟩ (.slice a6 (s.t1.length + 1) n6)) := hkB.trans ((Keeps.of_below hb6).setCell (p := ⟨x, 0, none⟩) HX.out.dx _)
    have H7 : RE x (A.comes s key) D (w6.setCell ⟨x, 0, none⟩ (.slice a6 (s.t1.length + 1) n6)) := ⟨_, _, _, _, _, _, _, _, _, H6⟩
    clear H6 u0 u1 u2 u3 u4 u5 v0 v1 v2 v3 v4 v5 HX hb6 hb5 hs5 hr6 HH hkB hD2
    generalize w6.setCell ⟨x, 0, none⟩ (.slice a6 (s.t1.length + 1) n6) = W7 at *
  all_goals
    obtain ⟨B, hB⟩ : ∃ B, B = A.cut s.b1 key := ⟨_, rfl⟩
    have hBl : B.length ≤ 2100 := by rw [hB]; exact Nat.le_trans (A.length_cut_le _ _) l3
    have hn1 : s.t1.length + 1 ≤ s.c := HT1.out
    have H7' : RE x { A.comes s key with b1 := B.drop 0 } D W7 := by rw [hB]; exact H7
    clear H7
    go_loopw [] (fun wr => ∃ j : Nat, j ≤ s.t1.length + 1 + B.length - s.c ∧ RE x { A.comes s key with b1 := B.drop j } D wr ∧ Keeps D w wr) (fun wr => lenAt wr x 2)
    case atStart => exact ⟨0, Nat.zero_le _, H7', hk7⟩
    case round =>
      clear H7' hk7
      obtain ⟨j, hj, HR, hkr⟩ := hrel
      have hDr : ∀ k, wr.heap.size ≤ k → D k := fun k h => hD k (Nat.le_trans hkr.size h)
      have hm3 := HR.len3
      obtain ⟨sj, hsj⟩ : ∃ sj : Stt, sj = { A.comes s key with b1 := B.drop j } := ⟨_, rfl⟩
      have q1 : sj.t1.length = s.t1.length + 1 := by rw [hsj]; simp [A.comes]
      have q3 : sj.b1.length = B.length - j := by rw [hsj]; simp
      have qc : sj.c = s.c := by rw [hsj]; rfl
      rw [← hsj] at HR
      have HSJ : Hid (sj = { A.comes s key with b1 := B.drop j }) := hsj
      have HK : Hid (Keeps D w wr) := hkr
      have HRE : Hid (RE x sj D wr) := HR
      obtain ⟨L2, r1, k1, r2, k2, r3, k3, r4, k4, HR⟩ := HR
      obtain ⟨d0, d1, d2, d3, d4, d5⟩ := HR.cells
      obtain ⟨f0, f1, f2, f3, f4, f5⟩ := HR.thaw
      rw [q1] at d0
      rw [q3] at d2
      rw [qc] at d5
      have w13 : IntKind.i64.wrap (((s.t1.length + 1 : Nat) : Int) + ((B.length - j : Nat) : Int)) = ((s.t1.length + 1 : Nat) : Int) + ((B.length - j : Nat) : Int) := by rw [IntKind.wrap_i64]; omega
      have hm3' : lenAt wr x 2 = B.length - j := by rw [hm3]; simp
      have HE : Hid ({ sj with b1 := sj.b1.tail } = ({ A.comes s key with b1 := B.drop (j + 1) } : Stt)) := by
        show ({ sj with b1 := sj.b1.tail } : Stt) = _
        rw [hsj]
        simp [List.tail_drop]
      have HX : Hid (j = s.t1.length + 1 + B.length - s.c → sj = A.trim1 (A.comes s key)) := fun h => by
        rw [hsj, h, hB]
        simp [A.trim1, A.comes]
      generalize hN1 : s.t1.length + 1 = N1 at *
      generalize hM : B.length - j = M at *
      clear hsj hkr hm3
      rcases Nat.lt_or_ge s.c (N1 + M) with hgt | hle
      · have g13 : decide ((s.c : Int) < (N1 : Int) + (M : Int)) = true := decide_eq_true (by omega)
        have hMp : 0 < M := by omega
        obtain ⟨g, off, rfl⟩ := HR.r3.shape (by have := HR.r3.1; omega)
        have HPA : Hid (∀ q, RE x { sj with b1 := sj.b1.tail } D ((wr.drewN q).setCell ⟨x, 2, none⟩ (.slice (if k3 = 1 then some ⟨g, off, none⟩ else some ⟨g, off + 1, none⟩) (M - 1) (k3 - 1)))) := fun q => (HR.below (below_drewN (Below.refl _ wr) q)).popped3 hDr (n := M - 1) (by rw [List.length_tail]; omega)
        have HKQ : Hid (∀ q v, Keeps D w ((wr.drewN q).setCell ⟨x, 2, none⟩ v)) := fun q v => (HK.out.drewN q).setCell (p := ⟨x, 2, none⟩) HR.dx _
        have HQ3 : Hid (sj.b1.length = M) := q3
        have hjl : j + 1 ≤ N1 + B.length - s.c := by omega
        have HM3 : Hid (lenAt wr x 2 = M) := hm3'
        clear HR q1 q3 qc hm3' hN1 hM hDr
        go_wp2_with fail
        go_quiet (fail)
        go_wp2_with fail
        all_goals
          go_roundw
          case rel =>
            refine ⟨j + 1, hjl, ?_, HKQ.out _ _⟩
            rw [← HE.out]
            exact HPA.out _
          case measure =>
            rw [HM3.out]
            have hq := HQ3.out
            rw [RE.len3 (HPA.out _)]
            show sj.b1.tail.length < M
            rw [List.length_tail]
            omega
      · have g13 : decide ((s.c : Int) < (N1 : Int) + (M : Int)) = false := decide_eq_false (by omega)
        have hsx := HX.out (by omega)
        obtain ⟨C, hC⟩ : ∃ C, C = A.cut s.b2 key := ⟨_, rfl⟩
        have hCl : C.length ≤ 2100 := by rw [hC]; exact Nat.le_trans (A.length_cut_le _ _) l4
        have HB0 : Hid (RE x { A.trim1 (A.comes s key) with b2 := C.drop 0 } D wr) := by
          have := HRE.out
          rw [hsx] at this
          rw [hC]
          exact this
        have hM1 : (A.trim1 (A.comes s key)).b1.length = M := by rw [← hsx]; exact q3
        have hKL : N1 + s.t2.length ≤ s.c := by have := HT2.out; omega
        have hMc : N1 + M ≤ s.c := hle
        clear HR q1 q3 qc hm3' hDr HE HX HRE HSJ hsx hN1 hM hB hBl hj hle
        go_wp2_with fail
        go_quiet (fail)
        go_wp2_with fail
        have HB1 : RE x { A.trim1 (A.comes s key) with b2 := C.drop 0 } D (wr.drewN nq) := HB0.out.below (below_drewN (Below.refl _ wr) _)
        have hkr : Keeps D w (wr.drewN nq) := HK.out.drewN _
        have HM1 : Hid ((A.trim1 (A.comes s key)).b1.length = M) := hM1
        have HN2 : Hid ((A.comes s key).t1.length = N1) := HN1.out
        clear HB0 HK d0 d1 d2 d3 d4 d5 f0 f1 f2 f3 f4 f5 w13 g13 hM1
        generalize wr.drewN nq = W8 at *
        go_loopw [] (fun wq => ∃ i : Nat, i ≤ N1 + s.t2.length + M + C.length - 2 * s.c ∧ RE x { A.trim1 (A.comes s key) with b2 := C.drop i } D wq ∧ Keeps D w wq) (fun wq => lenAt wq x 3)
        case atStart => exact ⟨0, Nat.zero_le _, HB1, hkr⟩
        case round =>
          clear HB1 hkr
          obtain ⟨i, hi, HR, hkr⟩ := hrel
          have hDr : ∀ k, wr.heap.size ≤ k → D k := fun k h => hD k (Nat.le_trans hkr.size h)
          have hm4 := HR.len4
          obtain ⟨sk, hsk⟩ : ∃ sk : Stt, sk = { A.trim1 (A.comes s key) with b2 := C.drop i } := ⟨_, rfl⟩
          have q1 : sk.t1.length = N1 := by rw [hsk]; exact HN2.out
          have q2 : sk.t2.length = s.t2.length := by rw [hsk]; rfl
          have q3 : sk.b1.length = M := by rw [hsk]; exact HM1.out
          have q4 : sk.b2.length = C.length - i := by rw [hsk]; simp
          have qc : sk.c = s.c := by rw [hsk]; rfl
          have qp : sk.p ≤ 1024 := by rw [hsk]; have := hok.pc; show s.p ≤ 1024; omega
          rw [← hsk] at HR
          have hsm : Small sk := ⟨by omega, by omega, by omega, by omega, qp, by omega, by omega⟩
          have hlen := fun q => rlen_any (HR.below (below_drewN (Below.refl _ wr) q)) hsm
          have hKk : (A.keys sk).length = N1 + s.t2.length := by rw [A.keys_length, q1, q2]
          rw [hKk] at hlen
          have hm4' : lenAt wr x 3 = C.length - i := by rw [hm4]; simp
          have HE : Hid ({ sk with b2 := sk.b2.tail } = ({ A.trim1 (A.comes s key) with b2 := C.drop (i + 1) } : Stt)) := by
            show ({ sk with b2 := sk.b2.tail } : Stt) = _
            rw [hsk]
            simp [List.tail_drop]
          have HX : Hid (i = N1 + s.t2.length + M + C.length - 2 * s.c → sk = A.trim2 (A.trim1 (A.comes s key))) := fun h => by
            rw [hsk, h, hC]
            have h1 := HN2.out
            have h2 := HM1.out
            unfold A.trim2
            have e1 : (A.trim1 (A.comes s key)).t1.length = N1 := h1
            have e2 : (A.trim1 (A.comes s key)).t2.length = s.t2.length := rfl
            have e3 : (A.trim1 (A.comes s key)).b2 = A.cut s.b2 key := rfl
            have e4 : (A.trim1 (A.comes s key)).c = s.c := rfl
            rw [e1, e2, h2, e3, e4]
            rfl
          have HK : Hid (Keeps D w wr) := hkr
          have HRE : Hid (RE x sk D wr) := HR
          obtain ⟨L2, r1, k1, r2, k2, r3, k3, r4, k4, HR⟩ := HR
          obtain ⟨d0, d1, d2, d3, d4, d5⟩ := HR.cells
          obtain ⟨f0, f1, f2, f3, f4, f5⟩ := HR.thaw
          rw [q3] at d2
          rw [q4] at d3
          rw [qc] at d5
          generalize hKK : N1 + s.t2.length = K at *
          generalize hP : C.length - i = P at *
          have w1 : IntKind.i64.wrap ((K : Int) + (M : Int)) = (K : Int) + (M : Int) := by rw [IntKind.wrap_i64]; omega
          have w2 : IntKind.i64.wrap ((K : Int) + (M : Int) + (P : Int)) = (K : Int) + (M : Int) + (P : Int) := by rw [IntKind.wrap_i64]; omega
          have w3 : IntKind.i64.wrap (2 * (s.c : Int)) = 2 * (s.c : Int) := by rw [IntKind.wrap_i64]; omega
          clear hsk hkr hm4 hKk
          rcases Nat.lt_or_ge (2 * s.c) (K + M + P) with hgt | hle
          · have g13 : decide (2 * (s.c : Int) < (K : Int) + (M : Int) + (P : Int)) = true := decide_eq_true (by omega)
            have hPp : 0 < P := by omega
            obtain ⟨g, off, rfl⟩ := HR.r4.shape (by have := HR.r4.1; omega)
            have HPA : Hid (∀ q, RE x { sk with b2 := sk.b2.tail } D ((wr.drewN q).setCell ⟨x, 3, none⟩ (.slice (if k4 = 1 then some ⟨g, off, none⟩ else some ⟨g, off + 1, none⟩) (P - 1) (k4 - 1)))) := fun q => (HR.below (below_drewN (Below.refl _ wr) q)).popped4 hDr (n := P - 1) (by rw [List.length_tail]; omega)
            have HKQ : Hid (∀ q v, Keeps D w ((wr.drewN q).setCell ⟨x, 3, none⟩ v)) := fun q v => (HK.out.drewN q).setCell (p := ⟨x, 3, none⟩) HR.dx _
            have HQ4 : Hid (sk.b2.length = P) := q4
            have hil : i + 1 ≤ K + M + C.length - 2 * s.c := by omega
            have HM4 : Hid (lenAt wr x 3 = P) := hm4'
            clear HR q1 q2 q3 q4 qc hm4' hKK hP hDr
            go_wp2_with fail
            go_quiet (first | (go_at_call 16; refine Calls.quiet_of (hlen _)))
            go_wp2_with fail
            all_goals
              go_roundw
              case rel =>
                refine ⟨i + 1, hil, ?_, HKQ.out _ _⟩
                rw [← HE.out]
                exact HPA.out _
              case measure =>
                rw [HM4.out]
                have hq := HQ4.out
                rw [RE.len4 (HPA.out _)]
                show sk.b2.tail.length < P
                rw [List.length_tail]
                omega
          · have g13 : decide (2 * (s.c : Int) < (K : Int) + (M : Int) + (P : Int)) = false := decide_eq_false (by omega)
            have hsx := HX.out (by omega)
            have HFin : Hid (RE x (A.trim2 (A.trim1 (A.comes s key))) D wr) := by
              have := HRE.out
              rw [hsx] at this
              exact this
            clear HR q1 q2 q3 q4 qc hm4' hKK hP hDr hsx HX HE HRE
            go_wp2_with fail
            go_quiet (first | (go_at_call 16; refine Calls.quiet_of (hlen _)))
            go_wp2_with fail
            go_ret
            exact ⟨rfl, HFin.out.below (below_drewN (Below.refl _ wr) _), HK.out.drewN _⟩
theorem rload_any (H : RE x s D w) (hok : A.Ok s) (hD : ∀ k, w.heap.size ≤ k → D k) (key : ByteArray) :
    Calls Tryd.prog 37 #[.pointer (some ⟨x, 0, none⟩), .string key] w fun e w' => e = .returned (.bool (A.load s key).1) ∧ RE x (A.load s key).2 D w' ∧ Keeps D w w' := by
  by_cases h : key ∈ A.keys s ∨ s.c ≤ (A.keys s).length
  · rw [A.load_no h]
    refine (rload_no H (Small.of hok) key h).mono ?_
    rintro e w' ⟨rfl, q, rfl⟩
    exact ⟨rfl, H.below (below_drewN (Below.refl _ w) q), (Keeps.refl D w).drewN q⟩
  · unfold A.load
    rw [if_neg h]
    exact rload_yes H hok hD key (fun e => h (.inl e)) (by rcases Nat.lt_or_ge (A.keys s).length s.c with e | e; exact e; exact absurd (.inr e) h)
end
end Go.Proofs.YtfbdmoineahfgaaDoor
