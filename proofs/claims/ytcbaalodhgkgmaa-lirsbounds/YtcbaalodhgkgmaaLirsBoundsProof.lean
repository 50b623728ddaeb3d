/- Never more are resident than there is room, and the lists are within their bounds, whatever is done: the law returns true for every room and every row of acts, and its arguments read as they did. -/
import Derived.Test.YtcbaalodhgkgmaaRows
import Derived.Test.YtcbaalodhgkgmaaAf
import Derived.Test.YtcbaalodhgkgmaaRfl
import Derived.WalkKit
import Derived.ProofKit
import Derived.OpenShut
import Derived.ShutString
import Derived.ChangeOld
import Derived.Below
import Derived.Carry
import Derived.SizedLaws
namespace Go.Proofs.Ytcbaalodhgkgmaa.lirsBounds
open Go.ChangeShapes Go.WideShapes Go.ChangeAt Go.RowKit
open Go.ChangeMaps (open_string shut_string)
set_option linter.unusedVariables false

theorem own : ownKnob Try.prog.godebug = none := by kernel_rfl
theorem laidOut : laidOutB Try.prog = true := by kernel_rfl
theorem ghost_apart {s : Stt} (hok : A.Ok s) {z : ByteArray} (h : z ∈ A.ghosts s) : inb z (A.keys s) = false := inb_no (hok.ghost h)
/-- has no key a sign of a state? -/
def okB (b : UInt8) : Bool := !(decide (b = 47)) && !(decide (b = 59))
def isPlain (zs : List ByteArray) : Bool := zs.all (fun z => z.data.toList.all okB)
theorem isPlain_no {zs : List ByteArray} {z : ByteArray} {b : UInt8} (h : z ∈ zs) (hb : b ∈ z.data.toList) (hn : okB b = false) : isPlain zs = false := by
  cases hv : isPlain zs with
  | false => rfl
  | true =>
    have := List.all_eq_true.1 (List.all_eq_true.1 hv z h) b hb
    rw [hn] at this
    cases this
theorem plain_any {w : World} {ad : Option Addr} {cap : Nat} {zs : List ByteArray} (h : RowIn Value.string w ad zs) (hm : zs.length ≤ 10000) (hz : ∀ z ∈ zs, z.size ≤ 1000) :
    Calls Try.prog 53 #[.slice ad zs.length cap] w fun e w' => e = .returned (.bool (isPlain zs)) ∧ w' = w := by
  have HD : Hid (RowIn Value.string w ad zs) := h
  have HZ : Hid (∀ z ∈ zs, z.size ≤ 1000) := hz
  clear h hz
  go_enter Try.func53, Try.ntmps53
  go_wp2_with fail
  go_loopw [3] (fun i wr => ∃ j : Nat, j ≤ zs.length ∧ i = .int .i64 j ∧ wr = w ∧ Hid (∀ (m : Nat) (y : ByteArray), m < j → zs[m]? = some y → y.data.toList.all okB = true)) (fun i _ => zs.length - (intOf i).toNat)
  case atStart => exact ⟨0, Nat.zero_le _, rfl, rfl, fun m y hm => by omega⟩
  case round =>
    obtain ⟨j, hj, rfl, rfl, hno⟩ := hrel
    rcases Nat.lt_or_ge j zs.length with hlt | hge
    · obtain ⟨z, hz⟩ : ∃ z, zs[j]? = some z := ⟨_, List.getElem?_eq_getElem hlt⟩
      obtain ⟨g, off, rfl, c0⟩ := HD.out.at hz
      have hzs := HZ.out z (List.mem_of_getElem? hz)
      have HJ : Hid (zs[j]? = some z) := hz
      clear hz
      go_wp2_with fail
      go_loopw [4] (fun k wq => ∃ n : Nat, n ≤ z.size ∧ k = .int .i64 n ∧ wq = wr ∧ Hid (∀ b, b ∈ z.data.toList.take n → okB b = true)) (fun k _ => z.size - (intOf k).toNat)
      case atStart => exact ⟨0, Nat.zero_le _, rfl, rfl, fun b hb => by simp at hb⟩
      case round =>
        obtain ⟨n, hn, rfl, rfl, hbs⟩ := hrel
        by_cases hnl : n < z.size
        · have hmem : z[n] ∈ z.data.toList := by
            have h := List.getElem_mem (l := z.data.toList) (n := n) (by simpa using hnl)
            exact h
          by_cases h1 : z[n].toNat = 47
          · have e1 : ((z[n].toNat : Int) == 47) = true := by simp; omega
            have HB : Hid (isPlain zs = false) := isPlain_no (List.mem_of_getElem? HJ.out) hmem (by
              have : z[n] = 47 := UInt8.toNat_inj.1 h1
              rw [this]; rfl)
            go_wp2_with fail
            go_ret
            exact ⟨by rw [HB.out]; rfl, rfl⟩
          · have e1 : ((z[n].toNat : Int) == 47) = false := by simp; omega
            by_cases h2 : z[n].toNat = 59
            · have e2 : ((z[n].toNat : Int) == 59) = true := by simp; omega
              have HB : Hid (isPlain zs = false) := isPlain_no (List.mem_of_getElem? HJ.out) hmem (by
                have : z[n] = 59 := UInt8.toNat_inj.1 h2
                rw [this]; rfl)
              go_wp2_with fail
              go_ret
              exact ⟨by rw [HB.out]; rfl, rfl⟩
            · have e2 : ((z[n].toNat : Int) == 59) = false := by simp; omega
              have HO : Hid (okB z[n] = true) := by
                show okB z[n] = true
                unfold okB
                have a1 : z[n] ≠ 47 := fun e => h1 (by rw [e]; rfl)
                have a2 : z[n] ≠ 59 := fun e => h2 (by rw [e]; rfl)
                simp [a1, a2]
              have HT : Hid (z.data.toList.take (n + 1) = z.data.toList.take n ++ [z[n]]) := by
                show z.data.toList.take (n + 1) = _
                rw [List.take_succ_eq_append_getElem (by simpa using hnl)]; rfl
              clear h1 h2 hmem
              go_wp2_with fail
              go_roundw
              case rel =>
                refine ⟨n + 1, by omega, by go_num, by first | rfl | trivial, fun b hb => ?_⟩
                rw [HT.out, List.mem_append, List.mem_singleton] at hb
                rcases hb with hb | hb
                · exact hbs.out b hb
                · rw [hb]; exact HO.out
              case measure => simp [intOf]; omega
        · have hnn : n = z.size := by omega
          have HAll : Hid (z.data.toList.all okB = true) := by
            rw [List.all_eq_true]
            intro b hb
            exact hbs.out b (by rw [List.take_of_length_le (by simp; omega)]; exact hb)
          go_wp2_with fail
          go_roundw
          case rel =>
            refine ⟨j + 1, hlt, by go_num, by first | rfl | trivial, fun m y hm hy => ?_⟩
            rcases Nat.lt_or_ge m j with h | h
            · exact hno.out m y h hy
            · rw [show m = j by omega, HJ.out] at hy
              cases hy
              exact HAll.out
          case measure => simp [intOf]; omega
    · have HP : Hid (isPlain zs = true) := by
        show isPlain zs = true
        unfold isPlain
        rw [List.all_eq_true]
        intro y hy
        obtain ⟨m, hm, e⟩ := List.getElem_of_mem hy
        exact hno.out m y (by omega) (by rw [List.getElem?_eq_getElem hm, e])
      go_wp2_with fail
      go_ret
      exact ⟨by rw [HP.out]; rfl, rfl⟩
theorem plain_both {w : World} {v1 v2 : Value} {r1 r2 : Bool} (h1 : Calls Try.prog 53 #[v1] w fun e w' => e = .returned (.bool r1) ∧ w' = w) (h2 : Calls Try.prog 53 #[v2] w fun e w' => e = .returned (.bool r2) ∧ w' = w) (v : Value) (r : Bool) (h : (v = v1 ∧ r = r1) ∨ (v = v2 ∧ r = r2)) :
    Calls Try.prog 53 #[v] w fun e w' => e = .returned (.bool r) ∧ w' = w := by
  rcases h with ⟨rfl, rfl⟩ | ⟨rfl, rfl⟩
  · exact h1
  · exact h2
/-- signs of hot keys, up to the end of S -/
def cntH : List UInt8 → Nat
  | a :: b :: r => if a = 59 then 0 else (if a = 47 ∧ b = 104 then 1 else 0) + cntH (b :: r)
  | _ => 0
theorem cntH_skip {a : UInt8} (h1 : a ≠ 47) (h2 : a ≠ 59) (r : List UInt8) : cntH (a :: r) = cntH r := by
  cases r with
  | nil => rfl
  | cons b r => simp [cntH, h1, h2]
theorem cntH_run {l : List UInt8} (h : l.all okB = true) (r : List UInt8) : cntH (l ++ r) = cntH r := by
  induction l with
  | nil => rfl
  | cons a l ih =>
    rw [List.all_cons, Bool.and_eq_true] at h
    have h1 : a ≠ 47 ∧ a ≠ 59 := by have := h.1; simpa [okB] using this
    rw [List.cons_append, cntH_skip h1.1 h1.2, ih h.2]
theorem cntH_S {s : Stt} {t : List ByteArray} (h : ∀ x, x ∈ t → x.data.toList.all okB = true) {r : List UInt8} : ∀ b q, r = 59 :: b :: q → cntH (sB (qs s) t ++ r) = (t.filter (A.isHot s.b1 s.t2)).length := by
  intro b q hr
  induction t with
  | nil => subst hr; simp [sB, cntH]
  | cons k t ih =>
    have ih2 := ih (fun x hx => h x (List.mem_cons_of_mem _ hx))
    have e1 : sB (qs s) (k :: t) ++ r = 32 :: (k.data.toList ++ (47 :: letB (qs s) k :: (sB (qs s) t ++ r))) := by simp [sB, cellB]
    rw [e1, cntH_skip (by decide) (by decide), cntH_run (h k (by simp))]
    have hl := sgn_letter s k
    have hne : sB (qs s) t ++ r ≠ [] := by rw [hr]; simp
    rcases A.sig_is s.b1 s.t2 k with hs | hs | hs
    · have hL : letB (qs s) k = 103 := by rw [← hl, hs]; rfl
      have hh : A.isHot s.b1 s.t2 k = false := by
        cases hv : A.isHot s.b1 s.t2 k with
        | false => rfl
        | true => have := A.sig_104.2 hv; omega
      rw [hL, List.filter_cons_of_neg (by rw [hh]; simp), ← ih2]
      show (if (47 : UInt8) = 59 then 0 else (if (47 : UInt8) = 47 ∧ (103 : UInt8) = 104 then 1 else 0) + cntH (103 :: (sB (qs s) t ++ r))) = _
      rw [cntH_skip (by decide) (by decide)]
      simp
    · have hL : letB (qs s) k = 99 := by rw [← hl, hs]; rfl
      have hh : A.isHot s.b1 s.t2 k = false := by
        cases hv : A.isHot s.b1 s.t2 k with
        | false => rfl
        | true => have := A.sig_104.2 hv; omega
      rw [hL, List.filter_cons_of_neg (by rw [hh]; simp), ← ih2]
      show (if (47 : UInt8) = 59 then 0 else (if (47 : UInt8) = 47 ∧ (99 : UInt8) = 104 then 1 else 0) + cntH (99 :: (sB (qs s) t ++ r))) = _
      rw [cntH_skip (by decide) (by decide)]
      simp
    · have hL : letB (qs s) k = 104 := by rw [← hl, hs]; rfl
      have hh : A.isHot s.b1 s.t2 k = true := A.sig_104.1 hs
      rw [hL, List.filter_cons_of_pos hh, List.length_cons, ← ih2]
      show (if (47 : UInt8) = 59 then 0 else (if (47 : UInt8) = 47 ∧ (104 : UInt8) = 104 then 1 else 0) + cntH (104 :: (sB (qs s) t ++ r))) = _
      rw [cntH_skip (by decide) (by decide)]
      simp
      omega
theorem cntH_state {s : Stt} (h1 : isPlain (A.keys s) = true) (h2 : isPlain (A.ghosts s) = true) : cntH (stB (qs s)) = (A.hots s).length := by
  have h : ∀ x, x ∈ s.t1 → x.data.toList.all okB = true := by
    intro x hx
    by_cases hq : x ∈ s.b1
    · exact List.all_eq_true.1 h1 x (A.mem_keys.2 (.inl hq))
    · by_cases hg : x ∈ s.t2
      · exact List.all_eq_true.1 h2 x hg
      · exact List.all_eq_true.1 h1 x (A.mem_keys.2 (.inr (A.mem_hots.2 ⟨hx, hq, hg⟩)))
  have e : stB (qs s) = 83 :: 58 :: (sB (qs s) s.t1 ++ (59 :: 81 :: 58 :: rowB (qs s 1))) := by
    show ([83, 58] ++ sB (qs s) s.t1) ++ ([59, 81, 58] ++ rowB (qs s 1)) = _
    simp
  rw [e, cntH_skip (by decide) (by decide), cntH_skip (by decide) (by decide)]
  exact cntH_S h _ _ rfl
theorem stB_len {s : Stt} (hok : A.Ok s) (hz : ∀ k, k ∈ s.t1 ∨ k ∈ s.b1 ∨ k ∈ s.t2 → k.size ≤ 1000) : (stB (qs s)).length ≤ 10000000 := by
  have h1 := (slOf hok).l1
  have h2 := (slOf hok).l2
  have e1 : (cel s).s.length = s.t1.length := cels_len _ _ _
  have a1 : (sB (qs s) s.t1).length ≤ 4000 * 1003 := sB_len (by omega) (fun k hk => hz k (.inl hk))
  have a2 : (rowB s.b1).length ≤ 4000 * 1001 := rowB_len h2 (fun k hk => hz k (.inr (.inl hk)))
  show (([83, 58] ++ sB (qs s) s.t1) ++ ([59, 81, 58] ++ rowB s.b1)).length ≤ _
  simp only [List.length_append, List.length_cons, List.length_nil]
  omega
section
variable {D : Nat → Prop} {w : World} {e b : Nat} {s : Stt}
set_option maxHeartbeats 4000000 in
theorem bounded_any (H : AE e b s D w) (hok : A.Ok s) (hb : b ≤ 100000) :
    Calls Try.prog 25 #[.pointer (some ⟨e, 0, none⟩)] w fun ee w' => ee = .returned (.bool true) ∧ Below w.heap.size w w' := by
  have HE : Hid (AE e b s D w) := H
  have HA : Hid (∀ z ∈ A.ghosts s, inb z (A.keys s) = false) := fun z hz => ghost_apart hok hz
  have hk := keysE_any H hb
  have hkf := keys_few hok
  have hout : (A.ghosts s).length ≤ s.c := hok.gho
  have hhi := hok.hi
  have hlo := hok.lo
  have HMost : Hid ((A.hots s).length ≤ s.c - max 1 (s.c / 10)) := hok.hot
  have HKz : Hid (∀ z ∈ A.keys s, z.size ≤ 1000) := fun z hz => H.sizes hz
  have HGz : Hid (∀ z ∈ A.ghosts s, z.size ≤ 1000) := fun z hz => H.gsizes hz
  have hsl := stB_len hok (fun k h => H.1.size h)
  have HCn : Hid (isPlain (A.keys s) = true → isPlain (A.ghosts s) = true → cntH (stB (qs s)) = (A.hots s).length) := fun h1 h2 => cntH_state h1 h2
  clear H hok
  go_enter Try.func25, Try.ntmps25
  go_wp2_with (first
    | (go_at_call 18; refine Calls.mono hk ?_; clear hk; rintro ee w2 ⟨ad, cp, rfl, hr, hb2⟩; have HB2 : Hid (Below w.heap.size w w2) := hb2; have HR : Hid (Row (w.heap.size ≤ ·) w2 ad cp (A.keys s)) := hr; have hg := ghostsE_any (HE.out.below hb2) hb; clear hr hb2)
    | (go_at_call 20; refine Calls.mono hg ?_; clear hg; rintro ee w3 ⟨ad3, cp3, rfl, hr3, hb3⟩; have HB3 : Hid (Below w.heap.size w w3) := (below_trans' HB2.out hb3); have HK3 : Hid (RowIn Value.string w3 ad (A.keys s)) := (HR.out.below hb3).rowIn; have HG3 : Hid (RowIn Value.string w3 ad3 (A.ghosts s)) := hr3.rowIn; clear hr3 hb3))
  go_loopw [5] (fun i wy => ∃ j : Nat, j ≤ (A.ghosts s).length ∧ i = .int .i64 j ∧ wy = w3) (fun i _ => (A.ghosts s).length - (intOf i).toNat)
  case atStart => exact ⟨0, Nat.zero_le _, rfl, rfl⟩
  case round =>
    obtain ⟨j, hj, rfl, rfl⟩ := hrel
    rcases Nat.lt_or_ge j (A.ghosts s).length with hlt | hge
    · obtain ⟨z, hz⟩ : ∃ z, (A.ghosts s)[j]? = some z := ⟨_, List.getElem?_eq_getElem hlt⟩
      obtain ⟨gg, off, rfl, cz⟩ := HG3.out.at hz
      have hlh := lhas_any (cap := cp) HK3.out (by unfold maxLen; omega) z
      rw [HA.out z (List.mem_of_getElem? hz)] at hlh
      clear hz
      go_wp2_with (go_at_call 27; refine Calls.mono hlh ?_; clear hlh; rintro ee w4 ⟨rfl, rfl⟩)
      go_roundw
      case rel => exact ⟨j + 1, hlt, by go_num, by first | rfl | trivial⟩
      case measure => simp [intOf]; omega
    · have hst := stateE_any (HE.out.below HB3.out)
      obtain ⟨B, hB⟩ : ∃ B : ByteArray, B = ⟨(stB (qs s)).toArray⟩ := ⟨_, rfl⟩
      have HBt : Hid (B.data.toList = stB (qs s)) := by show B.data.toList = _; rw [hB]
      have hBs : B.size ≤ 10000000 := by rw [hB]; show (stB (qs s)).toArray.size ≤ _; rw [List.size_toArray]; exact hsl
      rw [← hB] at hst
      clear hB hsl
      go_wp2_with (go_at_call 13; refine Calls.mono hst ?_; clear hst; rintro ee w5 ⟨rfl, hb5⟩; have HB5 : Hid (Below w.heap.size w w5) := (below_trans' HB3.out hb5); have HK5 : Hid (RowIn Value.string w5 ad (A.keys s)) := HK3.out.later hb5; have HG5 : Hid (RowIn Value.string w5 ad3 (A.ghosts s)) := HG3.out.later hb5; clear hb5)
      go_loopw [7, 8] (fun hv iv wq => ∃ (n hh : Nat), n ≤ B.size ∧ iv = .int .i64 n ∧ hv = .int .i64 hh ∧ hh ≤ n ∧ Hid (hh + cntH (B.data.toList.drop n) = cntH B.data.toList) ∧ wq = w5) (fun _ iv _ => B.size - (intOf iv).toNat)
      case atStart => exact ⟨0, 0, Nat.zero_le _, rfl, rfl, Nat.le_refl _, by show 0 + cntH (B.data.toList.drop 0) = _; simp, rfl⟩
      case round =>
        obtain ⟨n, hh, hn, rfl, rfl, hhn, hcn, rfl⟩ := hrel
        by_cases hgo : ∃ h : n + 1 < B.size, B[n].toNat ≠ 59
        · obtain ⟨hnl, h59⟩ := hgo
          have HDr : Hid (B.data.toList.drop n = B[n] :: B[n + 1] :: B.data.toList.drop (n + 2)) := by
            show B.data.toList.drop n = _
            rw [List.drop_eq_getElem_cons (by simpa using (by omega : n < B.size)), List.drop_eq_getElem_cons (by simpa using hnl)]
            rfl
          have HDr2 : Hid (B.data.toList.drop (n + 1) = B[n + 1] :: B.data.toList.drop (n + 2)) := by
            show B.data.toList.drop (n + 1) = _
            rw [List.drop_eq_getElem_cons (by simpa using hnl)]
            rfl
          have hn0 : n < B.size := by omega
          have g1 : ((n : Int) + 1 < (B.size : Int)) := by omega
          have g2 : ((B[n].toNat : Int) == 59) = false := by simp; omega
          have g3 : ((n : Int) + 1).toNat = n + 1 := by omega
          have hne : B[n] ≠ 59 := fun e => h59 (by rw [e]; rfl)
          by_cases h1 : B[n].toNat = 47 ∧ B[n + 1].toNat = 104
          · have e1 : ((B[n].toNat : Int) == 47) = true := by simp; omega
            have e2 : ((B[n + 1].toNat : Int) == 104) = true := by simp; omega
            have HNx : Hid ((hh + 1) + cntH (B.data.toList.drop (n + 1)) = cntH B.data.toList) := by
              have h3 := hcn.out
              show (hh + 1) + cntH (B.data.toList.drop (n + 1)) = _
              rw [HDr.out] at h3
              rw [HDr2.out, ← h3]
              have a1 : B[n] = 47 := UInt8.toNat_inj.1 h1.1
              have a2 : B[n + 1] = 104 := UInt8.toNat_inj.1 h1.2
              simp only [cntH, if_neg hne, if_pos (⟨a1, a2⟩ : B[n] = 47 ∧ B[n + 1] = 104)]
              omega
            clear hcn HDr HDr2 h1 hne h59
            go_wp2_with fail
            go_roundw
            case rel => exact ⟨n + 1, hh + 1, by omega, by go_num, by go_num, by omega, HNx.out, by first | rfl | trivial⟩
            case measure => simp [intOf]; omega
          · have HNx : Hid (hh + cntH (B.data.toList.drop (n + 1)) = cntH B.data.toList) := by
              have h3 := hcn.out
              show hh + cntH (B.data.toList.drop (n + 1)) = _
              rw [HDr.out] at h3
              rw [HDr2.out, ← h3]
              have a1 : ¬ (B[n] = 47 ∧ B[n + 1] = 104) := fun e => h1 ⟨by rw [e.1]; rfl, by rw [e.2]; rfl⟩
              simp only [cntH, if_neg hne, if_neg a1]
              omega
            clear hcn HDr HDr2 hne h59
            by_cases h2 : B[n].toNat = 47
            · have e1 : ((B[n].toNat : Int) == 47) = true := by simp; omega
              have e2 : ((B[n + 1].toNat : Int) == 104) = false := by simp; omega
              clear h1 h2
              go_wp2_with fail
              go_roundw
              case rel => exact ⟨n + 1, hh, by omega, by go_num, by go_num, by omega, HNx.out, by first | rfl | trivial⟩
              case measure => simp [intOf]; omega
            · have e1 : ((B[n].toNat : Int) == 47) = false := by simp; omega
              clear h1 h2
              go_wp2_with fail
              go_roundw
              case rel => exact ⟨n + 1, hh, by omega, by go_num, by go_num, by omega, HNx.out, by first | rfl | trivial⟩
              case measure => simp [intOf]; omega
        · have hex : (¬ n + 1 < B.size) ∨ ∃ h : n + 1 < B.size, B[n].toNat = 59 := by
            by_cases h : n + 1 < B.size
            · refine .inr ⟨h, ?_⟩
              by_cases h2 : B[n].toNat = 59
              · exact h2
              · exact absurd ⟨h, h2⟩ hgo
            · exact .inl h
          have HEq : Hid (hh = cntH B.data.toList) := by
            have h3 := hcn.out
            show hh = _
            have hz : cntH (B.data.toList.drop n) = 0 := by
              rcases hex with h | ⟨h, h2⟩
              · have hl : (B.data.toList.drop n).length ≤ 1 := by simp; omega
                cases hd : B.data.toList.drop n with
                | nil => rfl
                | cons a r =>
                  cases r with
                  | nil => rfl
                  | cons b r => rw [hd] at hl; simp at hl
              · rw [List.drop_eq_getElem_cons (by simpa using (by omega : n < B.size)), List.drop_eq_getElem_cons (by simpa using h)]
                have a1 : B.data.toList[n]'(by simpa using (by omega : n < B.size)) = 59 := UInt8.toNat_inj.1 h2
                rw [a1]
                simp [cntH]
            omega
          rw [HBt.out] at HEq
          clear hcn hgo
          rcases hex with h | ⟨h, h2⟩
          all_goals
            try have g1 : ¬ ((n : Int) + 1 < (B.size : Int)) := by omega
            try have g2 : ((B[n].toNat : Int) == 59) = true := by simp; omega
            try have hn0 : n < B.size := by omega
            have HRm : Hid _ := room_any (HE.out.below HB5.out)
            have hp1 := plain_any (cap := cp) HK5.out (by omega) HKz.out
            have hp2 := plain_any (cap := cp3) HG5.out (by omega) HGz.out
            have HFin : Hid (isPlain (A.keys s) = true → isPlain (A.ghosts s) = true → (hh : Int) ≤ (s.c : Int) - max 1 ((s.c : Int) / 10)) := fun a1 a2 => by
              have a3 := HCn.out a1 a2
              have a4 := HMost.out
              have a5 := HEq.out
              omega
            clear HCn HA HKz HGz
            generalize A.keys s = ks at *
            generalize A.ghosts s = gs at *
            cases hb1 : isPlain ks <;> cases hb2 : isPlain gs
            all_goals
              rw [hb1] at hp1 HFin
              rw [hb2] at hp2 HFin
              have HPB : Hid _ := plain_both hp1 hp2
              clear hp1 hp2 hb1 hb2
              go_wp2_with (first
                | (go_at_call 22; refine Calls.mono HRm.out ?_; rintro ee w9 ⟨rfl, hw9⟩; obtain rfl := hw9.symm)
                | (go_at_call 53; refine Calls.mono (HPB.out _ _ (by first | exact .inl ⟨rfl, rfl⟩ | exact .inr ⟨rfl, rfl⟩)) ?_; rintro ee w9 ⟨rfl, hw9⟩; obtain rfl := hw9.symm))
            all_goals
              go_ret
              exact ⟨by first | rfl | (have hf := HFin.out trivial trivial; simp; exact hf) | (have hf := HFin.out rfl rfl; simp; exact hf) | simp, HB5.out⟩
end

set_option maxRecDepth 20000 in
set_option maxHeartbeats 4000000 in
theorem walk (w : World) (a0 : Int) (w0 : (Lit.int .i64 a0).wf = true) (a1 : Option Addr) (len1 cap1 : Nat) (z1 : List Deed) (e1 : z1.length = len1) (m1 : len1 ≤ maxLen) (r1 : DeedsIn w a1 z1) (x1 : ∀ z ∈ z1, (Lit.int .i64 z.kind).wf = true ∧ z.s.size ≤ maxLen) :
    Calls Try.prog 4 #[.int .i64 a0, .slice a1 len1 cap1] w fun e w' => e = .returned (.bool true) ∧ Below w.heap.size w w' := by
  subst e1
  have hv := heavy_any (cap := cap1) r1 m1 (fun z hz => (x1 z hz).2)
  have HR : Hid (DeedsIn w a1 z1) := r1
  have hm1 : z1.length ≤ 9223372036854775807 := by unfold maxLen at m1; omega
  obtain ⟨b0, b1⟩ := bounds_i64 w0
  have hnew := new_any w (fun k => w.heap.size ≤ k) (fun _ h => h) a0
  clear r1 x1 m1
  go_enter Try.func4, Try.ntmps4
  go_wp2_with (first
    | (go_at_call 9; refine Calls.mono hv ?_; clear hv; rintro ee w1 ⟨⟨hb, rfl, hli⟩, rfl⟩; have HLI : Hid (hb = false → Light z1 200) := hli; clear hli; cases hb)
    | (go_at_call 10; refine Calls.mono hnew ?_; clear hnew; rintro ee w2 ⟨e, rfl, h2, hk2⟩; have H2 : Hid (AE e 0 (A.start (heldC a0)) (fun k => w1.heap.size ≤ k) w2) := h2; have HS2 : Hid (w1.heap.size ≤ w2.heap.size) := hk2.size; have HB2 : Hid (Below w1.heap.size w1 w2) := (hk2.below (Nat.le_refl _) (fun _ h => h)); clear h2 hk2; have hrnew := rnew_any (w := w2) (D := fun k => w2.heap.size ≤ k) a0 (fun _ h => h))
    | (go_at_call 11; refine Calls.mono hrnew ?_; clear hrnew; rintro ee w3 ⟨x, rfl, h3, hk3⟩; have H3 : Hid (Both e x 0 (A.start (heldC a0)) (fun k => k < w1.heap.size) w3) := (both_start H2.out HS2.out h3 hk3); have HB3 : Hid (Below w1.heap.size w1 w3) := (below_trans' HB2.out (hk3.below (Nat.le_refl _) (fun _ h => h))); clear h3 hk3))
  rotate_left
  · go_ret
    exact ⟨rfl, Below.refl _ _⟩
  have HL : Hid (Light z1 200) := (HLI.out (by first | rfl | trivial))
  have HC : Hid (1 ≤ heldC a0 ∧ heldC a0 ≤ 1024) := heldC_in a0
  clear HLI H2 HS2 HB2
  obtain ⟨c, hc⟩ : ∃ c, c = heldC a0 := ⟨_, rfl⟩
  rw [← hc] at H3 HC
  go_loopw [7] (fun i wr => ∃ (k : Nat) (s : Stt), k ≤ z1.length ∧ k ≤ 200 ∧ i = .int .i64 k ∧ A.Ok s ∧ s.c = c ∧ Both e x (2 * k) s (fun j => j < w1.heap.size) wr ∧ Below w1.heap.size w1 wr) (fun i _ => 200 - (intOf i).toNat)
  case atStart => exact ⟨0, A.start c, Nat.zero_le _, Nat.zero_le _, rfl, A.start_ok HC.out.1 HC.out.2, rfl, H3.out, HB3.out⟩
  case round =>
    obtain ⟨k, s, hk, hk2, rfl, hok, hsc, hA, hB⟩ := hrel
    clear H3 HB3 hc
    have HB : Hid (Below w1.heap.size w1 wr) := hB
    have HA : Hid (Both e x (2 * k) s (fun j => j < w1.heap.size) wr) := hA
    have HOk : Hid (A.Ok s) := hok
    have HSc : Hid (s.c = c) := hsc
    by_cases hin : k < z1.length ∧ k < 200
    · obtain ⟨l1, l2⟩ := hin
      obtain ⟨z, hz⟩ : ∃ z, z1[k]? = some z := ⟨_, List.getElem?_eq_getElem l1⟩
      obtain ⟨gg, off, rfl, c0, c1⟩ := (HR.out.later hB).at hz
      have hzs := HL.out k z l2 hz
      have hact := act_any hA hok (by omega) z.kind z.s (by omega)
      have l3 : (k : Int) < 200 := by omega
      clear hz hA hB hok hsc
      go_wp2_with (first
        | (go_at_call 12; refine Calls.mono hact ?_; clear hact; rintro ee w4 ⟨s', rfl, hok4, hc4, h4, hk4⟩; have HX4 : Hid (A.Ok s' ∧ s'.c = s.c) := ⟨hok4, hc4⟩; have H4 : Hid (Both e x (2 * k + 2) s' (fun j => j < w1.heap.size) w4) := h4; have HE4 : Hid (AE e (2 * k + 2) s' (fun j => w1.heap.size ≤ j) w4) := h4.eng; have HB4 : Hid (Below w1.heap.size w1 w4) := (HB.out.trans (hk4.old HB.out.size)); have hlen1 := keys_any h4.eng (by omega); have hl4 : Hid ((A.keys s').length ≤ s'.c) := hok4.res; have HBd : Hid (∀ W, AE e (2 * k + 2) s' (fun j => w1.heap.size ≤ j) W → Calls Try.prog 25 #[.pointer (some ⟨e, 0, none⟩)] W fun ee w' => ee = .returned (.bool true) ∧ Below W.heap.size W w') := (fun W hW => bounded_any hW hok4 (by omega)); obtain ⟨m, hm⟩ : ∃ m, m = (A.keys s').length := ⟨_, rfl⟩; have HM : Hid (m = (A.keys s').length) := hm; have hmc : m ≤ s'.c := (by rw [hm]; exact hl4.out); have hmc' : ¬ ((s'.c : Int) < (m : Int)) := (by omega); rw [← hm] at hlen1; clear hok4 hc4 h4 hk4 hm hl4 hmc)
        | (go_at_call 15; refine Calls.mono hlen1 ?_; clear hlen1; rintro ee w5 ⟨rfl, hb5⟩; have HE5 : Hid (AE e (2 * k + 2) s' (fun j => w1.heap.size ≤ j) w5) := HE4.out.below hb5; have HB5 : Hid (Below w4.heap.size w4 w5) := hb5; have hroom := room_any HE5.out; have hkeys := keysE_any HE5.out (by omega); rw [← HM.out] at hkeys; clear hb5)
        | (go_at_call 22; refine Calls.mono hroom ?_; clear hroom; rintro ee w6 ⟨rfl, rfl⟩)
        | (go_at_call 18; refine Calls.mono hkeys ?_; clear hkeys; rintro ee w7 ⟨ad, cp, rfl, hr7, hb7⟩; have HE7 : Hid (AE e (2 * k + 2) s' (fun j => w1.heap.size ≤ j) w7) := HE5.out.below hb7; have HB7 : Hid (Below w4.heap.size w4 w7) := below_trans' HB5.out hb7; have hlen2 := keys_any HE7.out (by omega); rw [← HM.out] at hlen2; clear hb7 hr7)
        | (go_at_call 15; refine Calls.mono hlen2 ?_; clear hlen2; rintro ee w8 ⟨rfl, hb8⟩; have HE8 : Hid (AE e (2 * k + 2) s' (fun j => w1.heap.size ≤ j) w8) := HE7.out.below hb8; have HB8 : Hid (Below w4.heap.size w4 w8) := below_trans' HB7.out hb8; have hbd := HBd.out w8 HE8.out; clear hb8)
        | (go_at_call 25; refine Calls.mono hbd ?_; clear hbd; rintro ee w9 ⟨rfl, hb9⟩; have HB9 : Hid (Below w4.heap.size w4 w9) := below_trans' HB8.out hb9; clear hb9))
      go_roundw
      case rel => exact ⟨k + 1, s', l1, l2, by go_num, HX4.out.1, HX4.out.2.trans HSc.out, H4.out.below HB9.out, below_trans' HB4.out HB9.out⟩
      case measure => simp [intOf]; omega
    · have hend : k = z1.length ∨ (k = 200 ∧ 200 < z1.length) := by omega
      clear hin hA hB hok hsc
      rcases hend with rfl | ⟨rfl, h200⟩
      all_goals
        go_wp2_with (go_at_call 24; refine (known_any _).mono ?_; rintro ee w13 ⟨rfl, hb13⟩; have HB13 : Hid (Below w1.heap.size w1 w13) := (below_trans' HB.out hb13); clear hb13)
        go_ret
        exact ⟨rfl, HB13.out⟩

set_option maxRecDepth 100000 in
theorem lifted (os : Os) (started : os.Started) (H : Type) (enc : TypeId × Value → H) :
    ReturnsInHanded {} Try.checked os 4 .any (Rows.lirsBoundsSpec.pre6 enc Try.prog Try.f4 Rows.lirsBoundsRow.domain false) (Rows.lirsBoundsSpec.post enc Try.prog Try.f4 false true false false) := by
  refine returnsInHanded_of_change_sized (C := Try.checked) own started (by kernel_rfl) Try.func4
    (ChangeSpec.witness6 (enc := enc) (C := Try.checked) false ⟨#[], #[.int .i64 0, .slice none 0 0], []⟩ 8 (by kernel_rfl) (by kernel_rfl) (by kernel_rfl) (by kernel_rfl)) ?_
  intro W base args ds gs before hval0 hW hcnd hsz0 _
  have hval : ∀ (j : Nat) t v, Try.f4.params[j]? = some t → args[j]? = some v → Value.okWide Try.prog W .any base t v := hval0
  have hsz : (DataW.weightsEach Try.prog (Try.f4.params.toList ++ Rows.lirsBoundsSpec.plain.varTypes Try.prog) (ds ++ gs)).all (· ≤ reachBytes) = true := hsz0
  have hW' := hW
  obtain ⟨p, q, hA0, hV, rfl, hfz, hnd⟩ := hW
  have hA : DataW.TrodAll enc Try.prog W 0 (fun _ => true) true Try.f4.params.toList args.toList ds p := hA0
  rw [Try.params4] at hA hval hsz
  obtain ⟨v0, vs0, d0, ds0, p0, q0, hargs, rfl, rfl, h0, s0⟩ := trodAll_cons hA
  obtain ⟨v1, vs1, d1, ds1, p1, q1, rfl, rfl, rfl, h1, s1⟩ := trodAll_cons s0
  obtain ⟨rfl, rfl, rfl⟩ := trodAll_nil s1
  obtain rfl : args = #[v0, v1] := by cases args; simp_all
  obtain ⟨rfl, rfl⟩ := trodVars_none hV
  obtain ⟨a0, rfl, rfl, rfl, w0⟩ := open_int Try.underlying3 (hval 0 3 v0 rfl rfl) h0
  obtain ⟨a1, len1, cap1, rfl⟩ := okWide_slice Try.underlying22 (hval 1 22 v1 rfl rfl)
  have k1 := h1
  have lt1 : ∀ x ∈ p1, x.block < W.heap.size := by obtain ⟨m, hm⟩ := k1; exact DataW.trod_lt m _ _ _ hm
  obtain ⟨z1, e1, m1, r1, x1⟩ := open_deeds h1
  clear hA0 hval0 hsz0
  refine (walk W a0 w0 a1 len1 cap1 z1 e1 m1 r1 x1).mono fun e W' ⟨he, bel⟩ => ?_
  subst he
  exact ⟨_, rfl, _, _, _, [], _, [], hW', trodAll_mk1 (shut_bool Try.underlying4 _), (trodAll_cons_mk (shut_int Try.underlying3 w0) (trodAll_cons_mk (Below.trod laidOut (by kernel_rfl) (of_decide_eq_true (by kernel_rfl)) k1 bel lt1) trodAll_mk0)), rfl, bel.frame _, fun h => by cases h⟩

theorem over : Rows.lirsBoundsRow.holds Try.pinned (OpenSpec.ofChange Rows.lirsBoundsSpec) :=
  OpenClaim.holds_of_wide 4 Try.f4 rfl rfl rfl rfl rfl rfl rfl ⟨rfl, rfl, rfl, rfl, rfl⟩ rfl rfl rfl rfl rfl (by kernel_rfl) Try.func4 (by kernel_rfl)
    (of_decide_eq_true (by kernel_rfl)) (by unfold Func.isWrapper; first | (rw [if_pos (by decide +kernel)]; kernel_rfl) | (rw [if_neg (by decide +kernel)]; exact ⟨rfl, rfl⟩))
    (fun os started H enc _ => lifted os started H enc)
end Go.Proofs.Ytcbaalodhgkgmaa.lirsBounds
namespace Go.Proofs.Ytcbaalodhgkgmaa
/-- the given statement -/
theorem lirsBounds_holds : Rows.LirsBoundsSaid := lirsBounds.over
#print axioms lirsBounds_holds
end Go.Proofs.Ytcbaalodhgkgmaa
