/- What goes in comes out in that order, each once, and no more wait than there is room: the law returns true for every room, every number of rounds and every row of numbers, and its arguments read as they did. -/
import Derived.Test.YtpjeehdgdhbhdaaRows
import Derived.Test.YtpjeehdgdhbhdaaName
import Derived.Deep.CutRange
import Derived.Deep.CutBlock
import Derived.WalkKit
import Derived.ProofKit
import Derived.OpenShut
import Derived.ShutString
import Derived.ChangeOld
import Derived.Below
import Derived.Carry
import Derived.SizedLaws
namespace Go.Proofs.Ytpjeehdgdhbhdaa.ringOrder
open Go.ChangeShapes Go.WideShapes Go.ChangeAt Go.RowKit
open Go.ChangeMaps (open_string shut_string)
set_option linter.unusedVariables false

theorem own : ownKnob Try.prog.godebug = none := by kernel_rfl
theorem laidOut : laidOutB Try.prog = true := by kernel_rfl

theorem bits_le (op : BinOp) (x y : Int) : bits op .i64 x y ≤ 9223372036854775807 := by
  unfold bits
  rw [IntKind.wrap_i64]
  omega
theorem names_more {a b : Nat} (h : b ≤ a) : (List.range' b (a - b)).map nm ++ [nm a] = (List.range' b (a + 1 - b)).map nm := by
  rw [show a + 1 - b = (a - b) + 1 by omega, List.range'_concat, List.map_append]
  simp
  congr 1
  omega
theorem names_less {a b : Nat} (h : b < a) : (List.range' b (a - b)).map nm = nm b :: (List.range' (b + 1) (a - (b + 1))).map nm := by
  rw [show a - b = (a - (b + 1)) + 1 by omega, List.range'_succ]
  simp
theorem names_none {a b : Nat} (h : a = b) : (List.range' b (a - b)).map nm = [] := by
  subst h
  simp
theorem names_len {a b : Nat} : ((List.range' b (a - b)).map nm).length = a - b := by simp
section
variable {D : Nat → Prop} {w : World} {p a b R : Nat}
theorem push_name (H : RG Str.V 9 51 D w p ((List.range' b (a - b)).map nm) R) (hD : ∀ k, w.heap.size ≤ k → D k) (h : b ≤ a) :
    Calls Try.prog 20 #[.pointer (some ⟨p, 0, none⟩), .string (nm a)] w fun e w' => ∃ (a' : Nat) (t : Bool), e = .returned (.bool t) ∧ ((t = true ∧ a' = a + 1) ∨ (t = false ∧ a' = a)) ∧ RG Str.V 9 51 D w' p ((List.range' b (a' - b)).map nm) R ∧ Keeps D w w' := by
  refine (Str.push_any H hD (nm a)).mono ?_
  rintro e w' ⟨he, H', hk⟩
  rw [Str.pushed, names_len] at H'
  rw [names_len] at he
  by_cases hr : a - b < R
  · rw [if_pos hr, names_more h] at H'
    rw [show decide (a - b < R) = true by simpa using hr] at he
    exact ⟨a + 1, true, he, .inl ⟨rfl, rfl⟩, H', hk⟩
  · rw [if_neg hr] at H'
    rw [show decide (a - b < R) = false by simpa using hr] at he
    exact ⟨a, false, he, .inr ⟨rfl, rfl⟩, H', hk⟩
theorem pop_name (H : RG Str.V 9 51 D w p ((List.range' b (a - b)).map nm) R) (h : b < a) :
    Calls Try.prog 22 #[.pointer (some ⟨p, 0, none⟩)] w fun e w' => e = .returned (.tuple #[.string (nm b), .bool true]) ∧ RG Str.V 9 51 D w' p ((List.range' (b + 1) (a - (b + 1))).map nm) R ∧ Keeps D w w' := by
  rw [names_less h] at H
  exact Str.pop_cons H
theorem pop_none (H : RG Str.V 9 51 D w p ((List.range' b (a - b)).map nm) R) (h : a = b) :
    Calls Try.prog 22 #[.pointer (some ⟨p, 0, none⟩)] w fun e w' => e = .returned (.tuple #[.string ⟨#[]⟩, .bool false]) ∧ RG Str.V 9 51 D w' p ((List.range' b (a - b)).map nm) R ∧ Keeps D w w' := by
  rw [names_none h] at H ⊢
  exact (Str.pop_nil H).mono fun e w' ⟨he, q, hw⟩ => ⟨he, by rw [hw]; exact H.drewN q, by rw [hw]; exact (Keeps.refl D w).drewN q⟩
theorem len_names (H : RG Str.V 9 51 D w p ((List.range' b (a - b)).map nm) R) (h : b ≤ a) :
    Calls Try.prog 23 #[.pointer (some ⟨p, 0, none⟩)] w fun e w' => e = .returned (.int .i64 ((a : Int) - b)) ∧ w' = w := by
  have := Str.len_any H
  rw [names_len, show ((a - b : Nat) : Int) = (a : Int) - b by omega] at this
  exact this
end

set_option maxRecDepth 20000 in
set_option maxHeartbeats 8000000 in
theorem walk (w : World) (a0 : Int) (w0 : (Lit.int .i64 a0).wf = true) (a1 : Int) (w1 : (Lit.int .i64 a1).wf = true) (a2 : Option Addr) (len2 cap2 : Nat) (z2 : List Int) (e2 : z2.length = len2) (m2 : len2 ≤ maxLen) (r2 : RowIn (Value.int .i64) w a2 z2) (x2 : ∀ z ∈ z2, (Lit.int .i64 z).wf = true) :
    Calls Try.prog 4 #[.int .i64 a0, .int .i64 a1, .slice a2 len2 cap2] w fun e w' => e = .returned (.bool true) ∧ Below w.heap.size w w' := by
  subst e2
  have hm : z2.length ≤ 9223372036854775807 := by unfold maxLen at m2; omega
  have R2 : Hid (RowIn (Value.int .i64) w a2 z2) := r2
  clear r2 x2 m2 w0 w1
  by_cases hin : 1 ≤ a0 ∧ a0 ≤ 100 ∧ 0 ≤ a1 ∧ a1 ≤ 300
  · obtain ⟨h1, h2, h3, h4⟩ := hin
    obtain ⟨R, rfl⟩ : ∃ R : Nat, a0 = R := ⟨a0.toNat, by omega⟩
    obtain ⟨n, rfl⟩ : ∃ n : Nat, a1 = n := ⟨a1.toNat, by omega⟩
    have hheld : Str.heldRoom (R : Int) = R := by
      unfold Str.heldRoom
      rw [if_neg (by omega), if_neg (by omega)]
      omega
    have hnew := Str.new_any w (w.heap.size ≤ ·) (Nat.le_refl _) (R : Int)
    rw [hheld] at hnew
    clear hheld
    go_enter Try.func4, Try.ntmps4
    go_wp2_with (go_at_call 19; refine hnew.mono ?_; rintro e w1 ⟨p, rfl, H1, hb1, -⟩; clear hnew)
    go_loopw [8, 9, 10] (fun vi vo i wr => ∃ a b k : Nat, k ≤ n ∧ b ≤ a ∧ a ≤ k ∧ vi = .int .i64 a ∧ vo = .int .i64 b ∧ i = .int .i64 k ∧ RG Str.V 9 51 (w.heap.size ≤ ·) wr p ((List.range' b (a - b)).map nm) R ∧ Below w.heap.size w wr) (fun _ _ i _ => n - (intOf i).toNat)
    case atStart => exact ⟨0, 0, 0, Nat.zero_le _, Nat.le_refl _, Nat.le_refl _, rfl, rfl, rfl, H1, hb1.below (Nat.le_refl _) (fun k h => h)⟩
    case round =>
      clear H1 hb1
      obtain ⟨a, b, k, hk, hba, hak, rfl, rfl, rfl, HA, hb⟩ := hrel
      have hlen := HA.len
      rw [List.length_map, List.length_range'] at hlen
      have hs := hb.size
      rcases Nat.lt_or_ge k n with hlt | hge
      · go_upto_if 39 with (first
          | (go_at_call 21; refine (name_any a (by omega) wr).mono ?_; rintro e w3 ⟨rfl, hb3⟩; have HA3 := HA.below hb3; have hb3' := hb.trans (hb3.mono hs); have hs3 := hb3'.size; clear hb3 HA)
          | (go_at_call 20; refine (push_name HA3 (fun k h => Nat.le_trans hs3 h) hba).mono ?_; rintro e w4 ⟨a', t, rfl, ha, HA4, hk4⟩; have hb4 := hb3'.trans (hk4.below hs3 (fun k h => h)); have ha' : b ≤ a' ∧ a' ≤ a + 1 := (by omega); have HT : Hid ((t = true ∧ a' = a + 1) ∨ (t = false ∧ a' = a)) := ha; clear HA3 hk4 ha))
        go_cut [8] from 31 to 79 (fun vi wx => vi = .int .i64 (a' : Nat) ∧ RG Str.V 9 51 (w.heap.size ≤ ·) wx p ((List.range' b (a' - b)).map nm) R ∧ Below w.heap.size w wx)
        case first =>
          rcases HT.out with ⟨rfl, hat⟩ | ⟨rfl, hat⟩
          · subst hat
            go_wp2_with fail
            go_meet
            case rel => exact ⟨by go_num, HA4, hb4⟩
          · subst hat
            go_wp2_with fail
            go_meet
            case rel => exact ⟨rfl, HA4, hb4⟩
        case rest =>
          obtain ⟨rfl, HA5, hb5⟩ := hcut
          clear HA4 hb4 HT hs3 hb3' hb hs hba
          obtain ⟨hba, haa⟩ := ha'
          have hs5 := hb5.size
          go_upto_if 45 with fail
          go_cut [11] from 31 to 79 (fun vk wx => ∃ K : Int, vk = .int .i64 K ∧ K ≤ 9223372036854775807 ∧ wx = wc)
          case first =>
            by_cases hp : k < z2.length
            · obtain ⟨z, hz⟩ : ∃ z, z2[k]? = some z := ⟨_, List.getElem?_eq_getElem hp⟩
              obtain ⟨g, off, ea, c⟩ := (RowIn.later R2.out hb5).at hz
              subst ea
              clear hz
              go_wp2_with fail
              go_meet
              case rel => exact ⟨_, rfl, bits_le _ _ _, rfl⟩
            · go_wp2_with fail
              go_meet
              case rel => exact ⟨1, rfl, by omega, rfl⟩
          case rest =>
            obtain ⟨K, rfl, hKle, rfl⟩ := hcut
            go_upto_block 2 with fail
            go_cut [9, 11, 12, 13] from 31 to 79 (fun vo _ _ _ wx => ∃ b' : Nat, vo = .int .i64 b' ∧ b' ≤ a' ∧ RG Str.V 9 51 (w.heap.size ≤ ·) wx p ((List.range' b' (a' - b')).map nm) R ∧ Below w.heap.size w wx)
            case first =>
              go_wp2_with fail
              go_loopw [9, 11] (fun vo vk wr => ∃ (b' : Nat) (K : Int), vo = .int .i64 b' ∧ vk = .int .i64 K ∧ K ≤ 9223372036854775807 ∧ b' ≤ a' ∧ RG Str.V 9 51 (w.heap.size ≤ ·) wr p ((List.range' b' (a' - b')).map nm) R ∧ Below w.heap.size w wr) (fun _ vk _ => (intOf vk).toNat)
              case atStart => exact ⟨b, K, rfl, rfl, hKle, hba, HA5, hb5⟩
              case round =>
                clear HA5 hb5 hs5 hba hKle
                obtain ⟨b', K', rfl, rfl, hK, hba, HA6, hb6⟩ := hrel
                have hs6 := hb6.size
                rcases Int.lt_or_le 0 K' with hpos | hneg
                · rcases Nat.lt_or_ge b' a' with hl | hl
                  · go_wp2_with (first
                      | (go_at_call 22; refine (pop_name HA6 hl).mono ?_; rintro e w7 ⟨rfl, HA7, hk7⟩; have hb7 := hb6.trans (hk7.below hs6 (fun k h => h)); have hs7 := hb7.size; clear HA6 hk7)
                      | (go_at_call 21; refine (name_any b' (by omega) w7).mono ?_; rintro e w8 ⟨rfl, hb8⟩; have HA8 := HA7.below hb8; have hb8' := hb7.trans (hb8.mono hs7); clear HA7 hb8))
                    go_roundw
                    case rel => exact ⟨b' + 1, K' - 1, by go_num, rfl, by omega, hl, HA8, hb8'⟩
                    case measure => simp [intOf]; omega
                  · have hl' : Hid (a' = b') := show a' = b' by omega
                    clear hl
                    go_wp2_with (first
                      | (go_at_call 22; refine (pop_none HA6 hl'.out).mono ?_; rintro e w7 ⟨rfl, HA7, hk7⟩; have hb7 := hb6.trans (hk7.below hs6 (fun k h => h)); clear HA6 hk7))
                    go_meet
                    case rel => exact ⟨b', rfl, hba, HA7, hb7⟩
                · have hneg' : ¬ 0 < K' := by omega
                  go_wp2_with fail
                  go_meet
                  case rel => exact ⟨b', rfl, hba, HA6, hb6⟩
            case rest =>
              clear HA5 hb5 hs5 hba hKle
              obtain ⟨b', rfl, hba, HA6, hb6⟩ := hcut
              have hl6 := HA6.len
              rw [names_len] at hl6
              have hlen6 : (a' : Int) - b' ≤ R := by omega
              go_wp2_with (first
                | (go_at_call 23; refine (len_names HA6 hba).mono ?_; rintro e w9 ⟨rfl, rfl⟩))
              go_roundw
              case rel => exact ⟨a', b', k + 1, hlt, hba, by omega, rfl, rfl, by go_num, HA6, hb6⟩
              case measure => simp [intOf]; omega
      · have hk' : k = n := by omega
        subst hk'
        go_wp2_with (go_at_call 18; refine (known_any _).mono ?_; rintro e w8 ⟨rfl, hb8⟩)
        go_ret
        exact ⟨rfl, hb.trans (hb8.mono hs)⟩
  · rcases Int.lt_or_le a0 1 with h1 | h1
    · go_enter Try.func4, Try.ntmps4
      go_wp2_with (go_at_call 18; refine (known_any _).mono ?_; rintro e w8 ⟨rfl, hb8⟩)
      go_ret
      exact ⟨rfl, hb8⟩
    rcases Int.lt_or_le 100 a0 with h2 | h2
    · have n1 : ¬ a0 < 1 := by omega
      go_enter Try.func4, Try.ntmps4
      go_wp2_with (go_at_call 18; refine (known_any _).mono ?_; rintro e w8 ⟨rfl, hb8⟩)
      go_ret
      exact ⟨rfl, hb8⟩
    rcases Int.lt_or_le a1 0 with h3 | h3
    · have n1 : ¬ a0 < 1 := by omega
      have n2 : ¬ 100 < a0 := by omega
      go_enter Try.func4, Try.ntmps4
      go_wp2_with (go_at_call 18; refine (known_any _).mono ?_; rintro e w8 ⟨rfl, hb8⟩)
      go_ret
      exact ⟨rfl, hb8⟩
    · have n1 : ¬ a0 < 1 := by omega
      have n2 : ¬ 100 < a0 := by omega
      have n3 : ¬ a1 < 0 := by omega
      have n4 : 300 < a1 := by omega
      clear hin
      go_enter Try.func4, Try.ntmps4
      go_wp2_with (go_at_call 18; refine (known_any _).mono ?_; rintro e w8 ⟨rfl, hb8⟩)
      go_ret
      exact ⟨rfl, hb8⟩

set_option maxRecDepth 100000 in
theorem lifted (os : Os) (started : os.Started) (H : Type) (enc : TypeId × Value → H) :
    ReturnsInHanded {} Try.checked os 4 .any (Rows.ringOrderSpec.pre6 enc Try.prog Try.f4 Rows.ringOrderRow.domain false) (Rows.ringOrderSpec.post enc Try.prog Try.f4 false true false false) := by
  refine returnsInHanded_of_change_sized (C := Try.checked) own started (by kernel_rfl) Try.func4
    (ChangeSpec.witness6 (enc := enc) (C := Try.checked) false ⟨#[], #[.int .i64 0, .int .i64 0, .slice none 0 0], []⟩ 8 (by kernel_rfl) (by kernel_rfl) (by kernel_rfl) (by kernel_rfl)) ?_
  intro W base args ds gs before hval0 hW hcnd hsz0 _
  have hval : ∀ (j : Nat) t v, Try.f4.params[j]? = some t → args[j]? = some v → Value.okWide Try.prog W .any base t v := hval0
  have hsz : (DataW.weightsEach Try.prog (Try.f4.params.toList ++ Rows.ringOrderSpec.plain.varTypes Try.prog) (ds ++ gs)).all (· ≤ reachBytes) = true := hsz0
  have hW' := hW
  obtain ⟨p, q, hA0, hV, rfl, hfz, hnd⟩ := hW
  have hA : DataW.TrodAll enc Try.prog W 0 (fun _ => true) true Try.f4.params.toList args.toList ds p := hA0
  rw [Try.params4] at hA hval hsz
  obtain ⟨v0, vs0, d0, ds0, p0, q0, hargs, rfl, rfl, h0, s0⟩ := trodAll_cons hA
  obtain ⟨v1, vs1, d1, ds1, p1, q1, rfl, rfl, rfl, h1, s1⟩ := trodAll_cons s0
  obtain ⟨v2, vs2, d2, ds2, p2, q2, rfl, rfl, rfl, h2, s2⟩ := trodAll_cons s1
  obtain ⟨rfl, rfl, rfl⟩ := trodAll_nil s2
  obtain rfl : args = #[v0, v1, v2] := by cases args; simp_all
  obtain ⟨rfl, rfl⟩ := trodVars_none hV
  obtain ⟨a0, rfl, rfl, rfl, w0⟩ := open_int Try.underlying3 (hval 0 3 v0 rfl rfl) h0
  obtain ⟨a1, rfl, rfl, rfl, w1⟩ := open_int Try.underlying3 (hval 1 3 v1 rfl rfl) h1
  obtain ⟨a2, len2, cap2, rfl⟩ := okWide_slice Try.underlying22 (hval 2 22 v2 rfl rfl)
  have k2 := h2
  have lt2 : ∀ x ∈ p2, x.block < W.heap.size := by obtain ⟨m, hm⟩ := k2; exact DataW.trod_lt m _ _ _ hm
  obtain ⟨z2, e2, m2, r2, x2⟩ := open_nums h2
  clear hA0 hval0 hsz0
  refine (walk W a0 w0 a1 w1 a2 len2 cap2 z2 e2 m2 r2 x2).mono fun e W' ⟨he, bel⟩ => ?_
  subst he
  exact ⟨_, rfl, _, _, _, [], _, [], hW', trodAll_mk1 (shut_bool Try.underlying4 _), (trodAll_cons_mk (shut_int Try.underlying3 w0) (trodAll_cons_mk (shut_int Try.underlying3 w1) (trodAll_cons_mk (Below.trod laidOut (by kernel_rfl) (of_decide_eq_true (by kernel_rfl)) k2 bel lt2) trodAll_mk0))), rfl, bel.frame _, fun h => by cases h⟩

theorem over : Rows.ringOrderRow.holds Try.pinned (OpenSpec.ofChange Rows.ringOrderSpec) :=
  OpenClaim.holds_of_wide 4 Try.f4 rfl rfl rfl rfl rfl rfl rfl ⟨rfl, rfl, rfl, rfl, rfl⟩ rfl rfl rfl rfl rfl (by kernel_rfl) Try.func4 (by kernel_rfl)
    (of_decide_eq_true (by kernel_rfl)) (by unfold Func.isWrapper; first | (rw [if_pos (by decide +kernel)]; kernel_rfl) | (rw [if_neg (by decide +kernel)]; exact ⟨rfl, rfl⟩))
    (fun os started H enc _ => lifted os started H enc)

end Go.Proofs.Ytpjeehdgdhbhdaa.ringOrder
namespace Go.Proofs.Ytpjeehdgdhbhdaa
/-- the given statement -/
theorem ringOrder_holds : Rows.RingOrderSaid := ringOrder.over
#print axioms ringOrder_holds
end Go.Proofs.Ytpjeehdgdhbhdaa
