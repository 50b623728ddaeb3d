/- Any kind's engine with any keys has those for which there is room, each once, none else, and tells what the document's tells: the law returns true for every kind, every room and every row of keys, and its arguments read as they did; the variable of the five names that the row lists is tied to the program's text. -/
import Derived.Test.YtkkkkiejnmpdkaaGreatDoorRows
import Derived.Test.YtkkkkiejnmpdkaaGreatDoorTie
import Derived.Test.YtkkkkiejnmpdkaaGreatDoorCards
import Derived.Test.YtkkkkiejnmpdkaaGreatDoorLw
import Derived.Test.YtkkkkiejnmpdkaaGreatDoorArcFr
import Derived.Test.YtkkkkiejnmpdkaaGreatDoorLirsFr
import Derived.Test.YtkkkkiejnmpdkaaGreatDoorTwoqFr
import Derived.Test.YtkkkkiejnmpdkaaGreatDoorLfuFr
import Derived.Test.YtkkkkiejnmpdkaaGreatDoorSfifoFr
import Derived.WalkKit
import Derived.ProofKit
import Derived.OpenShut
import Derived.ShutString
import Derived.ChangeOld
import Derived.Below
import Derived.Carry
import Derived.SizedLaws
import Derived.LaidMore
import Derived.Lay
import Derived.SevenTiedAt
import Derived.Stop.Joined
namespace Go.Proofs.YtkkkkiejnmpdkaaGreatDoor.engineFrom
open Go.ChangeShapes Go.WideShapes Go.ChangeAt Go.RowKit
open Go.ChangeMaps (open_string shut_string)
set_option linter.unusedVariables false

theorem own : ownKnob Tryz.prog.godebug = none := by kernel_rfl
theorem laidOut : laidOutB Tryz.prog = true := by kernel_rfl

set_option maxRecDepth 20000 in
set_option maxHeartbeats 1000000 in
theorem walk (w : World) (HNm : Names w) (a0 : Int) (w0 : (Lit.int .i64 a0).wf = true) (a1 : Int) (w1 : (Lit.int .i64 a1).wf = true) (a2 : Option Addr) (len2 cap2 : Nat) (z2 : List ByteArray) (e2 : z2.length = len2) (m2 : len2 ≤ maxLen) (r2 : RowIn Value.string w a2 z2) (x2 : ∀ z ∈ z2, z.size ≤ 140737488351232) :
    Calls Tryz.prog 4 #[.int .i64 a0, .int .i64 a1, .slice a2 len2 cap2] w fun e w' => e = .returned (.bool true) ∧ Below w.heap.size w w' := by
  subst e2
  by_cases h : a0 < 0
  · exact law_bad HNm a0 a1 (.inl h) r2 m2 x2
  by_cases h5 : a0 < 5
  · have : a0 = 0 ∨ a0 = 1 ∨ a0 = 2 ∨ a0 = 3 ∨ a0 = 4 := by omega
    rcases this with e | e | e | e | e <;> subst e
    · exact Arc.mach.law HNm a1 r2 m2 x2
    · exact Lirs.mach.law HNm a1 r2 m2 x2
    · exact Twoq.mach.law HNm a1 r2 m2 x2
    · exact Lfu.mach.law HNm a1 r2 m2 x2
    · exact Sfifo.mach.law HNm a1 r2 m2 x2
  · exact law_bad HNm a0 a1 (.inr (by omega)) r2 m2 x2

abbrev laid : List (String × DataW Unit) := Rows.engineFromRow.laid
set_option maxRecDepth 100000 in
theorem lifted (os : Os) (started : os.Started) (H : Type) (enc : TypeId × Value → H) :
    ReturnsInHanded {} Tryz.checked os 4 .any (fun w args => (Rows.engineFromSpec.pre enc Tryz.prog Tryz.f4 Rows.engineFromRow.domain false w args ∧ laidMetH Tryz.prog laid w) ∧ sizedMet enc Tryz.prog Tryz.f4 (OpenSpec.ofChange Rows.engineFromSpec) false w args)
      (Rows.engineFromSpec.post enc Tryz.prog Tryz.f4 false true false false) := by
  refine returnsInHanded_of_change_and (C := Tryz.checked) (X := fun w _ => laidMetH Tryz.prog laid w) (fun _ _ _ hh h => h.of_heap hh) own started (by kernel_rfl) Tryz.func4
    (ChangeSpec.witness_shaped (enc := enc) (C := Tryz.checked) (os := os) (X := fun w _ => laidMetH Tryz.prog laid w) false (World.laidAll Tryz.prog os laid) #[.int .i64 0, .int .i64 0, .slice none 0 0] 8 (World.laidAll_os _ _ _)
      (World.shaped_of_ZipB (by kernel_rfl) (by kernel_rfl)) (by kernel_rfl) (by kernel_rfl) (by kernel_rfl)
      (by rw [MakeChecks.laidMetH_plain _ _ _ (by kernel_rfl)]; exact laidMet_laidAll _ (by kernel_rfl) (by kernel_rfl))) ?_
  intro W base args ds gs before hval0 hW hcnd hsz0 hL _
  have hval : ∀ (j : Nat) t v, Tryz.f4.params[j]? = some t → args[j]? = some v → Value.okWide Tryz.prog W .any base t v := hval0
  have hsz : (DataW.weightsEach Tryz.prog (Tryz.f4.params.toList ++ Rows.engineFromSpec.plain.varTypes Tryz.prog) (ds ++ gs)).all (· ≤ reachBytes) = true := hsz0
  have hW' := hW
  obtain ⟨p, q, hA0, hV, rfl, hfz, hnd⟩ := hW
  have hA : DataW.TrodAll enc Tryz.prog W 0 (fun _ => true) true Tryz.f4.params.toList args.toList ds p := hA0
  rw [Tryz.params4] at hA hval hsz
  obtain ⟨v0, vs0, d0, ds0, p0, q0, hargs, rfl, rfl, h0, s0⟩ := trodAll_cons hA
  obtain ⟨v1, vs1, d1, ds1, p1, q1, rfl, rfl, rfl, h1, s1⟩ := trodAll_cons s0
  obtain ⟨v2, vs2, d2, ds2, p2, q2, rfl, rfl, rfl, h2, s2⟩ := trodAll_cons s1
  obtain ⟨rfl, rfl, rfl⟩ := trodAll_nil s2
  obtain rfl : args = #[v0, v1, v2] := by cases args; simp_all
  obtain ⟨rfl, rfl⟩ := trodVars_none hV
  obtain ⟨a0, rfl, rfl, rfl, w0⟩ := open_int Tryz.underlying3 (hval 0 3 v0 rfl rfl) h0
  obtain ⟨a1, rfl, rfl, rfl, w1⟩ := open_int Tryz.underlying3 (hval 1 3 v1 rfl rfl) h1
  obtain ⟨a2, len2, cap2, rfl⟩ := okWide_slice Tryz.underlying38 (hval 2 38 v2 rfl rfl)
  have k2 := h2
  have lt2 : ∀ x ∈ p2, x.block < W.heap.size := by obtain ⟨m, hm⟩ := k2; exact DataW.trod_lt m _ _ _ hm
  obtain ⟨z2, e2, m2, r2, x2⟩ := open_texts h2
  replace x2 : ∀ z ∈ z2, z.size ≤ 140737488351232 := fun z hz => reach_first (reach_tail (reach_tail hsz)) (x2 z hz)
  clear hA0 hval0 hsz0
  refine (walk W (names_of hL) a0 w0 a1 w1 a2 len2 cap2 z2 e2 m2 r2 x2).mono fun e W' ⟨he, bel⟩ => ?_
  subst he
  exact ⟨_, rfl, _, _, _, [], _, [], hW', trodAll_mk1 (shut_bool Tryz.underlying4 _), (trodAll_cons_mk (shut_int Tryz.underlying3 w0) (trodAll_cons_mk (shut_int Tryz.underlying3 w1) (trodAll_cons_mk (Below.trod laidOut (by kernel_rfl) (of_decide_eq_true (by kernel_rfl)) k2 bel lt2) trodAll_mk0))), rfl, bel.frame _, fun h => by cases h⟩

theorem over : Rows.engineFromRow.holds Tryz.pinned (OpenSpec.ofChange Rows.engineFromSpec) :=
  OpenClaim.holds_of_wide 4 Tryz.f4 rfl rfl rfl rfl rfl rfl rfl ⟨rfl, rfl, rfl, rfl, rfl⟩ rfl rfl rfl rfl rfl (by kernel_rfl) Tryz.func4 (by kernel_rfl)
    (of_decide_eq_true (by kernel_rfl)) (by unfold Func.isWrapper; first | (rw [if_pos (by decide +kernel)]; kernel_rfl) | (rw [if_neg (by decide +kernel)]; exact ⟨rfl, rfl⟩))
    (fun os started H enc _ => lifted os started H enc)
end Go.Proofs.YtkkkkiejnmpdkaaGreatDoor.engineFrom
namespace Go.Proofs.YtkkkkiejnmpdkaaGreatDoor
/-- the given statement -/
theorem engineFrom_holds : Rows.EngineFromCardSaid :=
  Claim7.holds_tied_plain_at .later [] [.data] true (true, "163beb20ab17da91df7896a284226d725bafb0eade1037b1fbe8c7a31245d662") false
    engineFrom.over (fun _ h => by cases h) (by kernel_rfl) (fun _ h => by cases h) engineFrom_row_tie rfl ⟨rfl, rfl⟩ (by kernel_rfl) rfl
    (fun f fn hf hfn => by
      obtain rfl : f = 4 := Option.some.inj ((show Tryz.prog.funcNamed Rows.engineFromRow.func = some 4 by kernel_rfl).symm.trans hf) |>.symm
      obtain rfl : fn = Tryz.f4 := (Option.some.inj (Tryz.func4.symm.trans hfn)).symm
      exact ⟨by kernel_rfl, fun j t ht => by
        rw [Tryz.params4] at ht
        have hm : t ∈ [3, 3, 38] := by simpa using Array.mem_of_getElem? ht
        have hall : ([3, 3, 38].all fun u => !Tryz.prog.wantsStandIn u) = true := by kernel_rfl
        exact (show Tryz.prog.wantsStandIn t = false by simpa using List.all_eq_true.1 hall t hm)⟩)
    (by kernel_rfl)
#print axioms engineFrom_holds
end Go.Proofs.YtkkkkiejnmpdkaaGreatDoor
