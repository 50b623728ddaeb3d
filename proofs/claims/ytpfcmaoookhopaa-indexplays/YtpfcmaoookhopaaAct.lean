/- An act, in the index and in the document's answer: they answer alike. -/
import Derived.Test.YtpfcmaoookhopaaRef5
import Derived.Deep.RegionHeld3
namespace Go.Proofs.Ytpfcmaoookhopaa
open Go.RowKit

section
variable {A B : (Nat → Prop) → World → Prop} {O : Nat → Prop} {w : World}
/-- beside a new block -/
theorem Two.box (la : Lies A) (lb : Lies B) (h : Two A B O w) (o : Obj) : Two A B (fun k => O k ∨ k = w.heap.size) (w.alloc o) := by
  obtain ⟨Dl, Dx, hl, hx, h1, h2, h3⟩ := h
  have hb : Below w.heap.size w (w.alloc o) := (Below.refl _ w).alloc (Nat.le_refl _) _
  have hs : (w.alloc o).heap.size = w.heap.size + 1 := by simp
  refine ⟨Dl, Dx, la.kept (D' := fun _ => False) hl (.of_below hb) (fun _ _ e => e), lb.kept (D' := fun _ => False) hx (.of_below hb) (fun _ _ e => e), ?_, ?_, ?_⟩
  · intro k e
    have := h1 k e
    exact ⟨this.1, by rintro (e2 | e2); exact this.2.1 e2; omega, by omega⟩
  · intro k e
    have := h2 k e
    exact ⟨by rintro (e2 | e2); exact this.1 e2; omega, by omega⟩
  · rintro k (e | e)
    · have := h3 k e; omega
    · omega
theorem Two.less {O' : Nat → Prop} (h : Two A B O' w) (hO : ∀ k, O k → O' k) : Two A B O w := by
  obtain ⟨Dl, Dx, hl, hx, h1, h2, h3⟩ := h
  exact ⟨Dl, Dx, hl, hx, fun k e => ⟨(h1 k e).1, fun e2 => (h1 k e).2.1 (hO k e2), (h1 k e).2.2⟩, fun k e => ⟨fun e2 => (h2 k e).1 (hO k e2), (h2 k e).2⟩, fun k e => h3 k (hO k e)⟩
end
section
variable {O : Nat → Prop} {w : World} {p x b : Nat} {m : ByteArray → Option Int}
theorem pair_more (h : Two (NX p m b) (RX x m b) O w) : Two (NX p m (b + 1)) (RX x m (b + 1)) O w := by
  obtain ⟨Dl, Dx, hl, ⟨l, ad, cap, hx, h1, h2, h3⟩, r⟩ := h
  exact ⟨Dl, Dx, IX.more hl (Nat.le_succ _), ⟨l, ad, cap, hx, h1, h2, by omega⟩, r⟩
/-- what an act leaves -/
def Acted (p x b : Nat) (O : Nat → Prop) (w w' : World) : Prop := (∃ m', Two (NX p m' (b + 1)) (RX x m' (b + 1)) O w') ∧ Keeps (fun k => ¬ O k) w w'
theorem acted_end {O' : Nat → Prop} {w1 w' : World} {m' : ByteArray → Option Int} {o : Obj} (hO : O' = fun k => O k ∨ k = w.heap.size) (h1 : w1 = w.alloc o) (h : Two (NX p m' (b + 1)) (RX x m' (b + 1)) O' w') (hk : Keeps (fun k => ¬ O' k) w1 w') : Acted p x b O w w' := by
  subst hO h1
  exact ⟨⟨m', h.less (fun k e => .inl e)⟩, ((Keeps.refl _ w).alloc o).trans (hk.mono (fun k e e2 => e (.inl e2)))⟩
theorem box_cells {o1 o2 o3 : Value} {t : TypeId} {q : Nat} {O' : Nat → Prop} {w1 w' : World} (hO : O' q) (h1 : w1.heap[q]? = some (.cells #[o1, o2, o3] t (0, 0))) (hk : Keeps (fun k => ¬ O' k) w1 w') :
    w'.cell? ⟨q, 0, none⟩ = some o1 ∧ w'.cell? ⟨q, 1, none⟩ = some o2 ∧ w'.cell? ⟨q, 2, none⟩ = some o3 := by
  have h := (hk.block q (lt_of_block h1) (fun e => e hO)).trans h1
  simp [World.cell?, h]
set_option maxRecDepth 20000 in
set_option maxHeartbeats 4000000 in
theorem act_any (h : Two (NX p m b) (RX x m b) O w) (kd n : Int) (s : ByteArray) (hs0 : s.size ≤ 100) (hb : b ≤ 999999) :
    Calls Try.prog 11 #[.pointer (some ⟨p, 0, none⟩), .pointer (some ⟨x, 0, none⟩), .agg #[.int .i64 kd, .int .i64 n, .string s]] w fun e w' => e = .returned (.bool true) ∧ Acted p x b O w w' := by
  have HB := h.box (NX.lies _ _ _) (RX.lies _ _ _) (.cells #[.int .i64 kd, .int .i64 n, .string s] 33)
  obtain ⟨O', hO'⟩ : ∃ O' : Nat → Prop, O' = fun k => O k ∨ k = w.heap.size := ⟨_, rfl⟩
  rw [← hO'] at HB
  have HO : Hid (O' = fun k => O k ∨ k = w.heap.size) := hO'
  have hq : O' w.heap.size := by rw [hO']; exact .inr rfl
  have hblk := heap_alloc_new w (.cells #[.int .i64 kd, .int .i64 n, .string s] 33)
  have HC : Hid (∀ w', Keeps (fun k => ¬ O' k) (w.alloc (.cells #[.int .i64 kd, .int .i64 n, .string s] 33)) w' → w'.cell? ⟨w.heap.size, 0, none⟩ = some (.int .i64 kd) ∧ w'.cell? ⟨w.heap.size, 1, none⟩ = some (.int .i64 n) ∧ w'.cell? ⟨w.heap.size, 2, none⟩ = some (.string s)) := fun w' hk => box_cells hq hblk hk
  clear h hO' hblk hq
  by_cases h1 : kd = 1
  · have hput := Two.onA (w := (w.alloc (.cells #[.int .i64 kd, .int .i64 n, .string s] 33)).drew) (A' := NX p (put m s (some n)) (b + 1)) (f := 24) (args := #[.pointer (some ⟨p, 0, none⟩), .string s, .int .i64 n]) (Q := fun e => e = .returned (.bool (m s).isNone)) (NX.lies _ _ _) (RX.lies _ _ _) (NX.lies _ _ _) HB (fun D H hD => Num.put_any H hD s (by omega) n (by omega))
    subst h1
    clear HB
    go_enter Try.func11, Try.ntmps11
    go_wp2_with fail
    go_region_held3 (fun w' => w'.cell? ⟨w.heap.size, 1, none⟩ = some (.int .i64 n) ∧ w'.cell? ⟨w.heap.size, 2, none⟩ = some (.string s)) (first | go_keep | exact ⟨d3, e3⟩ | exact ⟨d4, e4⟩)
      (first
      | (go_at_call 24; refine hput.mono ?_; rintro e w3 ⟨rfl, HA3, hk3⟩; clear hput; replace hk3 := (Keeps.refl _ (w.alloc (.cells #[.int .i64 1, .int .i64 n, .string s] 33))).drew.trans hk3; obtain ⟨-, d3, e3⟩ := HC.out w3 hk3)
      | (go_at_call 27; refine (Two.onB (B' := RX x (put m s (some n)) (b + 1)) (RX.lies _ _ _) (NX.lies _ _ _) (RX.lies _ _ _) HA3 (fun D H hD => rput_any H hD (by omega) s n)).mono ?_; rintro e w4 ⟨rfl, HA4, hk4⟩; replace hk4 := hk3.trans hk4; obtain ⟨-, d4, e4⟩ := HC.out w4 hk4))
    go_wp2_with fail
    go_ret
    exact ⟨by simp, acted_end HO.out rfl HA4 hk4⟩
  · by_cases h2 : kd = 2
    · subst h2
      obtain ⟨DL, hL⟩ := HB.left
      obtain ⟨c0, c1, c2⟩ := HC.out _ (Keeps.refl _ _)
      have hget := Num.get_any hL (by omega) s (by unfold maxLen; omega)
      go_enter Try.func11, Try.ntmps11
      go_wp2_with (first
        | (go_at_call 26; refine hget.mono ?_; rintro e w3 ⟨rfl, q3, hw3⟩; have HA3 : Two (NX p m b) (RX x m b) O' w3 := (by rw [hw3]; exact HB.below (NX.lies _ _ _) (RX.lies _ _ _) (below_drewN (Below.refl _ _) q3)); have hk3 : Keeps (fun k => ¬ O' k) (w.alloc (.cells #[.int .i64 2, .int .i64 n, .string s] 33)) w3 := (by rw [hw3]; exact (Keeps.refl _ _).drewN q3); obtain ⟨d3, e3, f3⟩ := HC.out w3 hk3; obtain ⟨DX, hX⟩ := HA3.right; clear hget hw3 hL HB c0 c1 c2)
        | (go_at_call 28; refine (rget_any hX (by omega) s).mono ?_; rintro e w4 ⟨rfl, q4, hw4⟩; have HA4 : Two (NX p m b) (RX x m b) O' w4 := (by rw [hw4]; exact HA3.below (NX.lies _ _ _) (RX.lies _ _ _) (below_drewN (Below.refl _ _) q4)); have hk4 : Keeps (fun k => ¬ O' k) (w.alloc (.cells #[.int .i64 2, .int .i64 n, .string s] 33)) w4 := (by rw [hw4]; exact hk3.drewN q4); clear hw4))
      go_ret
      exact ⟨by simp, acted_end HO.out rfl (pair_more HA4) hk4⟩
    · have hdel := Two.onA (A' := NX p (put m s none) b) (f := 25) (args := #[.pointer (some ⟨p, 0, none⟩), .string s]) (Q := fun e => e = .returned (.tuple #[Num.V ((m s).getD 0), .bool (m s).isSome])) (NX.lies _ _ _) (RX.lies _ _ _) (NX.lies _ _ _) HB (fun D H hD => Num.delete_any H (by omega) s (by unfold maxLen; omega))
      obtain ⟨c0, c1, c2⟩ := HC.out _ (Keeps.refl _ _)
      clear HB
      go_enter Try.func11, Try.ntmps11
      go_wp2_with (first
        | (go_at_call 25; refine hdel.mono ?_; rintro e w3 ⟨rfl, HA3, hk3⟩; clear hdel; obtain ⟨d3, e3, f3⟩ := HC.out w3 hk3)
        | (go_at_call 29; refine (Two.onB (B' := RX x (put m s none) b) (RX.lies _ _ _) (NX.lies _ _ _) (RX.lies _ _ _) HA3 (fun D H hD => rdel_any H hD (by omega) s)).mono ?_; rintro e w4 ⟨rfl, HA4, hk4⟩; replace hk4 := hk3.trans hk4))
      go_ret
      exact ⟨by simp, acted_end HO.out rfl (pair_more HA4) hk4⟩
end
end Go.Proofs.Ytpfcmaoookhopaa
