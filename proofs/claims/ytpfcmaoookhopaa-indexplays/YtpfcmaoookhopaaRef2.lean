/- The document's answer (hoardref6): at, Get, Len, Keys, Put over a value. -/
import Derived.Test.YtpfcmaoookhopaaRef
namespace Go.Proofs.Ytpfcmaoookhopaa
open Go.RowKit

def headIs (B : List (ByteArray × Int)) (k : ByteArray) : Bool := match B with | [] => false | c :: _ => decide (c.1 = k)
section
variable {D : Nat → Prop} {w w' : World} {x : Nat} {A B l : List (ByteArray × Int)} {ad : Option Addr} {cap b : Nat} {m : ByteArray → Option Int}
set_option maxHeartbeats 2000000 in
theorem rat_any (H : RefIn D w x (A ++ B) ad cap) (k : ByteArray) (hA : ∀ a ∈ A, bts a.1 < bts k) (hB : ∀ c ∈ B, ¬ bts c.1 < bts k) (hn : (A ++ B).length ≤ 1000000) :
    Calls Try.prog 38 #[.pointer (some ⟨x, 0, none⟩), .string k] w fun e w' => e = .returned (.tuple #[.int .i64 (A.length : Nat), .bool (headIs B k)]) ∧ ∃ q, w' = w.drewN q := by
  obtain ⟨c0, f0⟩ := H.top
  have HH : Hid (RefIn D w x (A ++ B) ad cap) := H
  have HA : Hid (∀ a ∈ A, bts a.1 < bts k) := hA
  have HB : Hid (∀ c ∈ B, ¬ bts c.1 < bts k) := hB
  have hle : A.length ≤ (A ++ B).length := by simp
  obtain ⟨n, hnl⟩ : ∃ n, n = (A ++ B).length := ⟨_, rfl⟩
  rw [← hnl] at c0 hn hle
  have HN : Hid (n = A.length + B.length) := by show n = _; rw [hnl, List.length_append]
  clear H hA hB hnl
  go_enter Try.func38, Try.ntmps38
  go_wp2
  go_loop [6] (fun i => ∃ j : Nat, j ≤ A.length ∧ i = .int .i64 j) (fun i => A.length - (intOf i).toNat)
  case atStart => exact ⟨0, Nat.zero_le _, rfl⟩
  case round =>
    obtain ⟨j, hj, rfl⟩ := hrel
    rcases Nat.lt_or_ge j A.length with hlt | hge
    · obtain ⟨e, he⟩ : ∃ e, A[j]? = some e := ⟨_, List.getElem?_eq_getElem hlt⟩
      obtain ⟨g, rfl, hgx, hDg, d0, d1, -⟩ := HH.out.cell (i := j) (e := e) (by rw [List.getElem?_append_left hlt]; exact he)
      have hls : Op.bytesLess e.1.toList k.toList = true := by rw [less_bts]; simpa using HA.out e (List.mem_of_getElem? he)
      have hjn : j < n := by omega
      clear he
      go_wp2
      go_round
      case rel => exact ⟨j + 1, hlt, by go_num⟩
      case measure => simp [intOf]; omega
    · have hj' : j = A.length := by omega
      subst hj'
      have hcs : B = [] ∨ ∃ c B', B = c :: B' := by
        cases B with
        | nil => exact .inl rfl
        | cons c B' => exact .inr ⟨c, B', rfl⟩
      rcases hcs with hB | ⟨c, B', hB⟩
      · have hnn : n = A.length := by have := HN.out; rw [hB] at this; simpa using this
        have HHd : Hid (headIs B k = false) := by show headIs B k = false; rw [hB]; rfl
        clear HN HH HA HB hB hge hj hle
        subst hnn
        go_wp2
        go_quiet (fail)
        go_wp2
        go_ret2
        exact ⟨by rw [HHd.out]; rfl, _, rfl⟩
      · obtain ⟨g, rfl, hgx, hDg, d0, d1, -⟩ := HH.out.cell (i := A.length) (e := c) (by rw [List.getElem?_append_right (Nat.le_refl _), Nat.sub_self, hB]; rfl)
        have hls : Op.bytesLess c.1.toList k.toList = false := by rw [less_bts]; simpa using HB.out c (by rw [hB]; simp)
        have hjn : A.length < n := by have := HN.out; rw [hB] at this; simp at this; omega
        have hjI : (A.length : Int) < (n : Int) := by omega
        have HHd : Hid (headIs B k = (c.1.toList == k.toList)) := by show headIs B k = _; rw [hB, bytes_beq]; rfl
        clear HN HA HB hB hge hj
        go_wp2
        go_quiet (fail)
        go_wp2
        go_ret2
        exact ⟨by rw [HHd.out]; rfl, _, rfl⟩
theorem rat_hit {k : ByteArray} {v : Int} (H : RefIn D w x (A ++ (k, v) :: B) ad cap) (hA : ∀ a ∈ A, bts a.1 < bts k) (hr : Rising (A ++ (k, v) :: B)) (hn : (A ++ (k, v) :: B).length ≤ 1000000) :
    Calls Try.prog 38 #[.pointer (some ⟨x, 0, none⟩), .string k] w fun e w' => e = .returned (.tuple #[.int .i64 (A.length : Nat), .bool true]) ∧ ∃ q, w' = w.drewN q := by
  have := rat_any H k hA (fun c hc => by
    rw [Rising, List.pairwise_append, List.pairwise_cons] at hr
    rcases List.mem_cons.1 hc with rfl | hc
    · exact lt_irr _
    · exact fun h => lt_irr _ (List.lt_trans h (hr.2.1.1 c hc))) hn
  rw [show headIs ((k, v) :: B) k = true by simp [headIs]] at this
  exact this
theorem rat_miss (H : RefIn D w x (A ++ B) ad cap) (k : ByteArray) (hA : ∀ a ∈ A, bts a.1 < bts k) (hB : ∀ c ∈ B, bts k < bts c.1) (hn : (A ++ B).length ≤ 1000000) :
    Calls Try.prog 38 #[.pointer (some ⟨x, 0, none⟩), .string k] w fun e w' => e = .returned (.tuple #[.int .i64 (A.length : Nat), .bool false]) ∧ ∃ q, w' = w.drewN q := by
  have := rat_any H k hA (fun c hc h => lt_irr _ (List.lt_trans h (hB c hc))) hn
  rw [show headIs B k = false by
    cases B with
    | nil => rfl
    | cons c B =>
      simp [headIs]
      intro e
      have := hB c (by simp)
      rw [e] at this
      exact lt_irr _ this] at this
  exact this
theorem rlen_any (H : RX x m b D w) : Calls Try.prog 13 #[.pointer (some ⟨x, 0, none⟩)] w fun e w' => ∃ c : Nat, e = .returned (.int .i64 (c : Nat)) ∧ Card m c ∧ w' = w := by
  obtain ⟨l, ad, cap, H, hr, hs, hb⟩ := H
  obtain ⟨c0, f0⟩ := H.top
  have hc : Card m l.length := by
    refine ⟨l.map (·.1), ?_, ?_, by simp⟩
    · rw [List.nodup_iff_pairwise_ne, List.pairwise_map]
      exact hr.imp (fun {a b} hab e => by rw [e] at hab; exact lt_irr _ hab)
    · intro k
      rw [Option.isSome_iff_exists]
      constructor
      · intro h
        obtain ⟨e, he, rfl⟩ := List.mem_map.1 h
        exact ⟨e.2, (hs _ _).2 he⟩
      · rintro ⟨v, hv⟩
        exact List.mem_map.2 ⟨(k, v), (hs k v).1 hv, rfl⟩
  clear H hr hs
  go_enter Try.func13, Try.ntmps13
  go_wp2
  go_ret
  exact ⟨_, rfl, hc, rfl⟩
theorem rget_hit (H : RX x m b D w) (hb : b ≤ 1000000) (k : ByteArray) {v : Int} (hm : m k = some v) :
    Calls Try.prog 28 #[.pointer (some ⟨x, 0, none⟩), .string k] w fun e w' => e = .returned (.tuple #[.int .i64 v, .bool true]) ∧ ∃ q, w' = w.drewN q := by
  obtain ⟨l, ad, cap, H, hr, hs, hl⟩ := H
  obtain ⟨A, B, rfl, hA⟩ := cut_hit hr hs hm
  have hat := rat_hit H hA hr (by omega)
  obtain ⟨c0, f0⟩ := H.top
  obtain ⟨g, rfl, hgx, hDg, d0, d1, -⟩ := H.cell (i := A.length) (e := (k, v)) (by simp)
  have hlt : A.length < (A ++ (k, v) :: B).length := by simp
  obtain ⟨n, hn⟩ : ∃ n, n = (A ++ (k, v) :: B).length := ⟨_, rfl⟩
  rw [← hn] at c0 hlt hl
  clear H hr hs hm hn hA
  go_enter Try.func28, Try.ntmps28
  go_wp2_with (go_at_call 38; refine hat.mono ?_; rintro e w1 ⟨rfl, q, rfl⟩; clear hat)
  go_ret2
  exact ⟨rfl, _, rfl⟩
theorem rget_miss (H : RX x m b D w) (hb : b ≤ 1000000) (k : ByteArray) (hm : m k = none) :
    Calls Try.prog 28 #[.pointer (some ⟨x, 0, none⟩), .string k] w fun e w' => e = .returned (.tuple #[.int .i64 0, .bool false]) ∧ ∃ q, w' = w.drewN q := by
  obtain ⟨l, ad, cap, H, hr, hs, hl⟩ := H
  obtain ⟨A, B, rfl, hA, hB⟩ := cut_miss hr hs hm
  have hat := rat_miss H k hA hB (by omega)
  clear H hr hs hm hA hB
  go_enter Try.func28, Try.ntmps28
  go_wp2_with (go_at_call 38; refine hat.mono ?_; rintro e w1 ⟨rfl, q, rfl⟩; clear hat)
  go_ret2
  exact ⟨rfl, _, rfl⟩
theorem rget_any (H : RX x m b D w) (hb : b ≤ 1000000) (k : ByteArray) :
    Calls Try.prog 28 #[.pointer (some ⟨x, 0, none⟩), .string k] w fun e w' => e = .returned (.tuple #[.int .i64 ((m k).getD 0), .bool (m k).isSome]) ∧ ∃ q, w' = w.drewN q := by
  cases hm : m k with
  | none => exact rget_miss H hb k hm
  | some v => exact rget_hit H hb k hm
end
end Go.Proofs.Ytpfcmaoookhopaa
