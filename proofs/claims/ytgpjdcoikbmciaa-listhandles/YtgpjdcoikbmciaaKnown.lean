/- What is known: a handle that is given anew. -/
import Derived.Test.YtgpjdcoikbmciaaStr4
namespace Go.Proofs.Ytgpjdcoikbmciaa
open Go.RowKit

theorem two_texts (w : World) (x y : ByteArray) : TextsAt (w.alloc (.cells #[.string x, .string y] 9)) (some ⟨w.heap.size, 0, none⟩) [x, y] := by
  refine .inr ⟨_, _, rfl, fun i hi => ?_⟩
  have := heap_alloc_new w (.cells #[.string x, .string y] 9)
  rw [cell_of_block this]
  match i, hi with
  | 0, _ => rfl
  | 1, _ => rfl
  | i + 2, hi => simp at hi; omega
theorem TextsAt.later {w w' : World} {ad : Option Addr} {zs : List ByteArray} (h : TextsAt w ad zs) (hb : Below w.heap.size w w') : TextsAt w' ad zs := by
  rcases h with h | ⟨g, off, e, h⟩
  · exact .inl h
  · exact .inr ⟨g, off, e, fun i hi => cell_later hb (h i hi)⟩
set_option maxHeartbeats 1000000 in
theorem known_any (w : World) : Calls Try.prog 20 #[] w fun e w' => e = .returned (.bool true) ∧ Below w.heap.size w w' := by
  go_enter Try.func20, Try.ntmps20
  go_wp2_with (first
    | (go_at_call 10; refine (make_any w (w.heap.size ≤ ·) (Nat.le_refl _)).mono ?_; rintro e w1 ⟨p, rfl, H1, hb1⟩; have s1 := hb1.size)
    | (go_at_call 32; refine (pushBack_any H1 (fun k h => Nat.le_trans s1 h) _ (by omega)).mono ?_; rintro e w2 ⟨rfl, H2, hb2⟩; replace H2 : LA Value.string 60 58 (w.heap.size ≤ ·) w2 p [1] [] (upd (fun _ => ⟨#[]⟩) 1 ⟨#[97]⟩) 1 := H2; have s2 := Nat.le_trans s1 hb2.size; rw [show handOf [] 0 = 1 from rfl]; clear H1)
    | (go_at_call 32; refine (pushBack_any H2 (fun k h => Nat.le_trans s2 h) _ (by omega)).mono ?_; rintro e w3 ⟨rfl, H3, hb3⟩; replace H3 : LA Value.string 60 58 (w.heap.size ≤ ·) w3 p ([] ++ 1 :: [2]) [] (upd (upd (fun _ => ⟨#[]⟩) 1 ⟨#[97]⟩) 2 ⟨#[98]⟩) 2 := H3; have s3 := Nat.le_trans s2 hb3.size; rw [show handOf [] 1 = 2 from rfl]; clear H2)
    | (go_at_call 34; refine (remove_in 1 H3 (by omega)).mono ?_; rintro e w4 ⟨rfl, H4, hb4⟩; replace H4 : LA Value.string 60 58 (w.heap.size ≤ ·) w4 p [2] [1] (upd (upd (upd (fun _ => ⟨#[]⟩) 1 ⟨#[97]⟩) 2 ⟨#[98]⟩) 1 ⟨#[]⟩) 2 := H4; have s4 := Nat.le_trans s3 hb4.size; rw [show upd (upd (fun _ => (⟨#[]⟩ : ByteArray)) 1 ⟨#[97]⟩) 2 ⟨#[98]⟩ 1 = ⟨#[97]⟩ from rfl]; clear H3)
    | (go_at_call 35; refine (pushFront_any H4 (fun k h => Nat.le_trans s4 h) _ (by omega)).mono ?_; rintro e w5 ⟨rfl, H5, hb5⟩; replace H5 : LA Value.string 60 58 (w.heap.size ≤ ·) w5 p [1, 2] [] (upd (upd (upd (upd (fun _ => ⟨#[]⟩) 1 ⟨#[97]⟩) 2 ⟨#[98]⟩) 1 ⟨#[]⟩) 1 ⟨#[99]⟩) 2 := H5; have s5 := Nat.le_trans s4 hb5.size; rw [show handOf [1] 2 = 1 from rfl]; clear H4)
    | (go_at_call 17; refine (all_any H5 (by omega)).mono ?_; rintro e w6 ⟨ad, cap, rfl, hown, hb6⟩; replace hown := TextsAt.own (zs := [⟨#[99]⟩, ⟨#[98]⟩]) hown; clear H5)
    | (go_at_call 16; refine (texts_any (hown.later ((Below.refl _ _).alloc (Nat.le_refl _) _)) (two_texts _ _ _) rfl rfl (by decide) (by decide)).mono ?_; rintro e w7 ⟨rfl, hb7⟩))
  go_ret
  exact ⟨rfl, (((((((hb1.trans hb2).trans hb3).trans hb4).trans hb5).trans (.of_below hb6)).alloc _).trans (.of_below hb7)).below (Nat.le_refl _) (fun k h => h)⟩
end Go.Proofs.Ytgpjdcoikbmciaa
