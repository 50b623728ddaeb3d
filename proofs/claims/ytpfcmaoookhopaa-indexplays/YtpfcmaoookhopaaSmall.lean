/- What is known; whether acts are more than is looked at; a text of a number. -/
import Derived.Test.YtpfcmaoookhopaaArgs
import Derived.Laws.BytesString
namespace Go.Proofs.Ytpfcmaoookhopaa
open Go.RowKit

theorem Num.keys_nil (w : World) : Calls Try.prog 15 #[.pointer none] w fun e w' => e = .returned (.slice none 0 0) ∧ w' = w := by
  go_enter Try.func15, Try.ntmps15
  go_wp2
  go_ret
  exact ⟨rfl, rfl⟩
theorem card_none {α : Type} : Card (fun _ => (none : Option α)) 0 := ⟨[], List.nodup_nil, by simp, rfl⟩
theorem put_none_back {α : Type} (k : ByteArray) (v v' : Option α) (x : ByteArray) : (put (put (put (fun _ => none) k v) k v') k none x).isSome = (none : Option α).isSome := by
  by_cases h : x = k
  · rw [h, put_same]
  · rw [put_far h, put_far h, put_far h]
def kA : ByteArray := ⟨#[97]⟩
open Num in
set_option maxHeartbeats 1000000 in
theorem known_any (w : World) : Calls Try.prog 17 #[] w fun e w' => e = .returned (.bool true) ∧ Below w.heap.size w w' := by
  have e1 : (none : Option Int).isNone = true := rfl
  have q1 : Hid (put (fun _ => (none : Option Int)) kA (some 1) kA = some 1) := put_same _ _
  have q2 : Hid (put (put (fun _ => (none : Option Int)) kA (some 1)) kA (some 2) kA = some 2) := put_same _ _
  go_enter Try.func17, Try.ntmps17
  go_wp2_with (first
    | (go_at_call 10; refine (new_any w (w.heap.size ≤ ·) (Nat.le_refl _) 1 (by omega)).mono ?_; rintro e w1 ⟨p, rfl, H1, hb1, -⟩; have s1 := hb1.size)
    | (go_at_call 24; refine (put_any H1 (fun k h => Nat.le_trans s1 h) kA (by decide) 1 (by omega)).mono ?_; rintro e w2 ⟨rfl, H2, hb2⟩; have s2 := Nat.le_trans s1 hb2.size; clear H1)
    | (go_at_call 24; refine (put_any H2 (fun k h => Nat.le_trans s2 h) kA (by decide) 2 (by omega)).mono ?_; rintro e w3 ⟨rfl, H3, hb3⟩; rw [q1.out]; have s3 := Nat.le_trans s2 hb3.size; clear H2)
    | (go_at_call 26; refine (get_any H3 (by omega) kA (by decide)).mono ?_; rintro e w4 ⟨rfl, q4, rfl⟩; rw [q2.out]; have H4 := H3.drewN q4; clear H3)
    | (go_at_call 25; refine (delete_any H4 (by omega) kA (by decide)).mono ?_; rintro e w5 ⟨rfl, H5, hb5⟩; rw [q2.out])
    | (go_at_call 12; refine (len_any H5).mono ?_; rintro e w6 ⟨c, rfl, hc, rfl⟩; have hc0 : c = 0 := hc.one card_none (put_none_back _ _ _); subst hc0))
  go_ret
  exact ⟨rfl, ((((hb1.trans hb2).trans hb3).drewN q4).trans hb5).below (Nat.le_refl _) (fun k h => h)⟩
/-- texts of the first k acts that are looked at are short -/
def Light (zs : List Deed) (k : Nat) : Prop := ∀ (j : Nat) (z : Deed), j < k → zs[j]? = some z → z.s.size ≤ 100
def HeavyIs (zs : List Deed) (e : Ending) : Prop := ∃ b, e = .returned (.bool b) ∧ (b = false → Light zs 200)
theorem Light.more {zs : List Deed} {k : Nat} {z : Deed} (h : Light zs k) (hz : zs[k]? = some z) (hs : z.s.size ≤ 100) : Light zs (k + 1) := by
  intro j y hj hy
  rcases Nat.lt_or_ge j k with c | c
  · exact h j y c hy
  · have e : j = k := by omega
    subst e
    rw [hz] at hy
    cases hy
    exact hs
theorem Light.all {zs : List Deed} {k : Nat} (h : Light zs k) (hk : zs.length ≤ k ∨ 200 ≤ k) : Light zs 200 := by
  intro j y hj hy
  rcases hk with hk | hk
  · exact h j y (by have := lt_of_at hy; omega) hy
  · exact h j y (by omega) hy
set_option maxRecDepth 20000 in
set_option maxHeartbeats 1000000 in
theorem heavy_any {w : World} {ad : Option Addr} {cap : Nat} {zs : List Deed} (h : DeedsIn w ad zs) (hm : zs.length ≤ maxLen) (hz : ∀ z ∈ zs, z.s.size ≤ maxLen) :
    Calls Try.prog 9 #[.slice ad zs.length cap] w fun e w' => HeavyIs zs e ∧ w' = w := by
  have hm' : zs.length ≤ 9223372036854775807 := by unfold maxLen at hm; omega
  have HD : Hid _ := h
  have HS : Hid _ := hz
  clear h hm hz
  go_enter Try.func9, Try.ntmps9
  go_wp2
  go_loop [3] (fun i => ∃ k : Nat, k ≤ zs.length ∧ i = .int .i64 k ∧ Light zs k) (fun i => zs.length - (intOf i).toNat)
  case atStart => exact ⟨0, Nat.zero_le _, rfl, fun j z hj => by omega⟩
  case round =>
    obtain ⟨k, hk, rfl, hL⟩ := hrel
    have HL : Hid (Light zs k) := hL
    clear hL
    rcases Nat.lt_or_ge k zs.length with hlt | hge
    · by_cases h200 : k < 200
      · obtain ⟨z, hz⟩ : ∃ z, zs[k]? = some z := ⟨_, List.getElem?_eq_getElem hlt⟩
        obtain ⟨g, off, rfl, c0, c1, c2⟩ := DeedsIn.at HD.out hz
        have hsz : z.s.size ≤ 9223372036854775807 := by have := HS.out z (List.mem_of_getElem? hz); unfold maxLen at this; omega
        have h200' : (k : Int) < 200 := by omega
        have HZ : Hid (zs[k]? = some z) := hz
        clear hz
        by_cases hs : z.s.size ≤ 100
        · go_wp2
          go_round
          case rel => exact ⟨k + 1, hlt, by go_num, HL.out.more HZ.out hs⟩
          case measure => simp [intOf]; omega
        · go_wp2
          go_ret
          exact ⟨⟨true, rfl, fun e => by cases e⟩, rfl⟩
      · have h200' : ¬ ((k : Int) < 200) := by omega
        go_wp2
        go_ret
        exact ⟨⟨false, rfl, fun _ => HL.out.all (.inr (by omega))⟩, rfl⟩
    · go_wp2
      go_ret
      exact ⟨⟨false, rfl, fun _ => HL.out.all (.inl (by omega))⟩, rfl⟩
/-- the text of a number -/
def kn (n : Nat) : ByteArray := [107, (97 + (n : Int) % 26), (97 + (n : Int) / 26 % 26), (97 + (n : Int) / 676 % 26)].foldl (fun r n => r.push (UInt8.ofNat n.toNat)) ByteArray.empty
theorem key_text (w : World) (n : Nat) : Sem.run Try.prog (convert 67 9 (Value.slice (some ⟨w.heap.size, 0, none⟩) 4 4)) (w.alloc (Obj.cells #[Value.int IntKind.u8 107, Value.int IntKind.u8 (97 + (n : Int) % 26), Value.int IntKind.u8 (97 + (n : Int) / 26 % 26), Value.int IntKind.u8 (97 + (n : Int) / 676 % 26)] 5)) =
    .ok (.string (kn n)) (w.alloc (Obj.cells #[Value.int IntKind.u8 107, Value.int IntKind.u8 (97 + (n : Int) % 26), Value.int IntKind.u8 (97 + (n : Int) / 26 % 26), Value.int IntKind.u8 (97 + (n : Int) / 676 % 26)] 5)) := by
  rw [run_convert_bytes_string _ 67 9 5 _ 4 4 Try.underlying67 Try.underlying5 Try.underlying9]
  refine run_bytesToString _ _ 4 4 [107, (97 + (n : Int) % 26), (97 + (n : Int) / 26 % 26), (97 + (n : Int) / 676 % 26)] ?_
  refine run_loadCells_list (P := Try.prog) _ ⟨w.heap.size, 0, none⟩ [Value.int IntKind.u8 107, Value.int IntKind.u8 (97 + (n : Int) % 26), Value.int IntKind.u8 (97 + (n : Int) / 26 % 26), Value.int IntKind.u8 (97 + (n : Int) / 676 % 26)] ?_
  intro j v hv
  rw [show (⟨w.heap.size, 0, none⟩ : Addr).add j = ⟨w.heap.size, j, none⟩ by simp [Addr.add_lit], cell_of_block (heap_alloc_new w _)]
  simpa using hv
set_option maxHeartbeats 1000000 in
theorem key_any (n : Nat) (hn : n ≤ 1000) (w : World) : Calls Try.prog 20 #[.int .i64 (n : Nat)] w fun e w' => e = .returned (.string (kn n)) ∧ Below w.heap.size w w' := by
  have ht := key_text w n
  go_enter Try.func20, Try.ntmps20
  go_wp2
  go_ret
  exact ⟨rfl, (Below.refl _ w).alloc (Nat.le_refl _) _⟩
theorem kn_bytes (n : Nat) : kn n = ⟨#[107, UInt8.ofNat (97 + n % 26), UInt8.ofNat (97 + n / 26 % 26), UInt8.ofNat (97 + n / 676 % 26)]⟩ := by
  have h1 : (97 + (n : Int) % 26).toNat = 97 + n % 26 := by omega
  have h2 : (97 + (n : Int) / 26 % 26).toNat = 97 + n / 26 % 26 := by omega
  have h3 : (97 + (n : Int) / 676 % 26).toNat = 97 + n / 676 % 26 := by omega
  unfold kn
  simp only [List.foldl_cons, List.foldl_nil, h1, h2, h3]
  rfl
theorem kn_size (n : Nat) : (kn n).size = 4 := by rw [kn_bytes]; rfl
theorem u8_inj {a b : Nat} (ha : a < 256) (hb : b < 256) (h : UInt8.ofNat a = UInt8.ofNat b) : a = b := by
  have := congrArg UInt8.toNat h
  simpa [Nat.mod_eq_of_lt ha, Nat.mod_eq_of_lt hb] using this
theorem kn_inj {i j : Nat} (hi : i ≤ 1000) (hj : j ≤ 1000) (h : kn i = kn j) : i = j := by
  rw [kn_bytes, kn_bytes] at h
  injection h with h
  have h' := congrArg Array.toList h
  simp only [List.cons.injEq] at h'
  have h1 := u8_inj (by omega) (by omega) h'.2.1
  have h2 := u8_inj (by omega) (by omega) h'.2.2.1
  have h3 := u8_inj (by omega) (by omega) h'.2.2.2.1
  omega
end Go.Proofs.Ytpfcmaoookhopaa
