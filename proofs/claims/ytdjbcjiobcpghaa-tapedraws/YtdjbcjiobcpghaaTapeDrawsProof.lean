/- A tape of any list of at most 500 draws gives them in order, and then noughts, counts what is left and what was taken, and keeps nothing of the list: the law returns true for every list and number, and both read as they did. -/
import Derived.Test.YtdjbcjiobcpghaaRows
import Derived.Test.YtdjbcjiobcpghaaKnown
import Derived.WalkKit
import Derived.ProofKit
import Derived.OpenShut
import Derived.ShutString
import Derived.ChangeOld
import Derived.Below
namespace Go.Proofs.Ytdjbcjiobcpghaa.tapeDraws
open Go.ChangeShapes Go.WideShapes Go.ChangeAt Go.RowKit
open Go.ChangeMaps (open_string shut_string)
set_option linter.unusedVariables false

theorem own : ownKnob Try.prog.godebug = none := by kernel_rfl
theorem laidOut : laidOutB Try.prog = true := by kernel_rfl

/-- WHAT THE WALK IS TOLD OF A SLICE OF INTEGERS THAT CAME IN: it is nil; or it leads to a row of 'cap' cells, the numbers 'zs' (the first 'len' are its elements, the rest its spare room), each fitting its kind. -/
def IsRow (k : IntKind) (w : World) (a : Option Addr) (len cap : Nat) (zs : List Int) : Prop :=
  (a = none ∧ len = 0 ∧ cap = 0 ∧ zs = []) ∨
  ∃ x, a = some x ∧ len ≤ cap ∧ cap ≤ maxLen ∧ zs.length = cap ∧ (∀ i, i < zs.length → w.cell? (x.add i) = some (.int k (zs.getD i 0))) ∧ ∀ n ∈ zs, (Lit.int k n).wf = true

/-! ### STEP 1: THE WALK: the Go text returns true, AND WRITES NOTHING THAT WAS THERE: 'Below w.heap.size w w'' (Derived/Below.lean: '.refl', '.alloc', '.drew', '.setCell' at a new block, '.trans'). Open each 'IsRow' by 'rcases' AHEAD of 'go_enter'; part every test ahead of the walk. -/
/-- a row that came in, as what an append takes, in the world behind a new block -/
theorem from_arg {w : World} {a : Option Addr} {len cap : Nat} {zs : List Int} (h : IsRow .u32 w a len cap zs) (o : Obj) : FromRow (w.alloc o) a len cap ((zs.take len).map (Value.int .u32)) := by
  rcases h with ⟨rfl, rfl, rfl, rfl⟩ | ⟨x, rfl, hl, _, hz, hc, _⟩
  · exact .inl ⟨rfl, rfl, rfl, rfl⟩
  · refine .inr ⟨x, rfl, by simp; omega, fun j u hj => ?_, ints_oneCell _ _⟩
    rw [List.getElem?_map, List.getElem?_take] at hj
    split at hj
    · rename_i hjl
      rw [List.getElem?_eq_getElem (by omega)] at hj
      simp at hj
      have hcj := hc j (by omega)
      rw [World.cell?_of_block (w := w) (Below.heap_alloc _ _ _ (World.block_lt_of_cell? w _ hcj)), hcj, ← hj]
      simp [List.getElem?_eq_getElem (show j < zs.length by omega)]
    · simp at hj
/-- a row that the call owns, as what an append takes -/
theorem from_own {w : World} {B : Nat} {ad : Option Addr} {n cap : Nat} {zs : List Int} (h : w.ownsRow B 25 1 (.slice ad n cap) n (zs.map (Value.int .u32))) : FromRow w ad n cap (zs.map (Value.int .u32)) := by
  rcases h.2 with ⟨hv, _⟩ | ⟨g, c, cur, hv, _⟩
  · cases hv
    have := h.1
    simp at this
    subst this
    exact .inl ⟨rfl, rfl, rfl, rfl⟩
  · cases hv
    exact .inr ⟨_, rfl, by have := h.1; omega, h.cells rfl, ints_oneCell _ _⟩
/-- the copy that the law writes over: its row, in the world as it stands -/
def Copy (H B : Nat) (w : World) (ad : Option Addr) (n : Nat) : Prop := n = 0 ∨ ∃ g cur, ad = some ⟨g, 0, none⟩ ∧ H ≤ g ∧ g < B ∧ n ≤ cur.size ∧ w.heap[g]? = some (.cells cur 25 (0, 0))
theorem copy_made {w w2 : World} {H : Nat} {ad : Option Addr} {n cap : Nat} {xs : List Value} (h : w.ownsRow H 25 1 (.slice ad n cap) n xs) (hb : Below w.heap.size w w2) : Copy H w.heap.size w2 ad n := by
  rcases h.2 with ⟨_, h0⟩ | ⟨g, c, cur, hv, hg, hh, hn, _, hs, _⟩
  · exact .inl h0
  · cases hv
    exact .inr ⟨g, cur, rfl, hg, lt_of_block hh, by omega, by rw [hb.block g (lt_of_block hh)]; exact hh⟩
theorem next_val {B : Nat} {w : World} {p : Nat} {zs : List Int} {t v : Int} (h : TapeAt B w p zs t) (t0 : 0 ≤ t) (t1 : t ≤ 1000000) (hv : v = zs.headD 0) :
    Calls Try.prog 8 #[.pointer (some ⟨p, 0, none⟩)] w fun e w' => e = .returned (.int .u32 v) ∧ TapeAt B w' p zs.tail (t + 1) ∧ Below B w w' := by
  rw [hv]; exact next_any h t0 t1
theorem tape_far {B : Nat} {w : World} {p g j : Nat} {zs : List Int} {t : Int} {u : Value} (h : TapeAt B w p zs t) (hg : g < B) : TapeAt B (w.setCell ⟨g, j, none⟩ u) p zs t := by
  obtain ⟨hB, ad, n, cap, hh, hn, hc, hr⟩ := h
  refine ⟨hB, ad, n, cap, by rw [Below.heap_setCell _ _ _ _ (by show p ≠ g; omega)]; exact hh, hn, hc, fun hp => ?_⟩
  obtain ⟨q, off, h1, h2, h3, h4⟩ := hr hp
  exact ⟨q, off, h1, h2, h3, fun i hi => by rw [cell_setCell_far (by show q ≠ g; omega)]; exact h4 i hi⟩

theorem walk (a0 : Option Addr) (len0 cap0 : Nat) (z0 : List Int) (a1 : Int) (w : World) (w0 : IsRow .u32 w a0 len0 cap0 z0) (w1 : (Lit.int .i64 a1).wf = true) :
    Calls Try.prog 3 #[.slice a0 len0 cap0, .int .i64 a1] w fun e w' => e = .returned (.bool true) ∧ Below w.heap.size w w' := by
  obtain ⟨b0, b1⟩ := bounds_i64 w1
  clear w1
  by_cases hlen : 500 < len0
  · go_enter Try.func3, Try.ntmps3
    go_wp2
    go_ret
    exact ⟨rfl, Below.refl _ _⟩
  by_cases hlo : a1 < 0
  · go_enter Try.func3, Try.ntmps3
    go_wp2
    go_ret
    exact ⟨rfl, Below.refl _ _⟩
  by_cases hhi : 600 < a1
  · go_enter Try.func3, Try.ntmps3
    go_wp2
    go_ret
    exact ⟨rfl, Below.refl _ _⟩
  obtain ⟨n, rfl⟩ := Int.eq_ofNat_of_zero_le (show 0 ≤ a1 by omega)
  have hn : n ≤ 600 := by omega
  have hlen' : len0 ≤ 500 := by omega
  clear b0 b1 hlo hhi hlen
  obtain ⟨i0, hi, hz0, hz1, hz2⟩ := info_parts Try.info25
  have hsrc := from_arg w0 (.cells #[] 25)
  have hzl : (z0.take len0).length = len0 := by
    rcases w0 with ⟨_, rfl, _, rfl⟩ | ⟨_, _, h1, _, h2, _⟩
    · rfl
    · simp; omega
  have W0 : Hid _ := w0
  have HZ : Hid _ := hzl
  clear w0
  go_enter Try.func3, Try.ntmps3
  go_wp2_with (first
    | (at_builtin; refine wpList_append_from _ rfl _ _ 22 rfl w.heap.size 25 i0 (.int .u32 0) 4 Try.underlying22 hi hz0 hz1 hz2 rfl (.slice (some ⟨w.heap.size, 0, none⟩) 0 0) 0 [] rfl (World.ownsRow_made w #[] 0 (Nat.le_refl _) (by unfold maxLen; omega) rfl) a0 len0 cap0 _ rfl hsrc (by unfold maxLen; omega) (by omega) (by simp) ?_; intro ad' cap' w1 hc1 hown hgrow hat; rw [Nat.zero_add] at hc1 hown hat ⊢; rw [List.nil_append] at hown; clear hsrc hi hz0 hz1 hz2 hat)
    | (go_at_call 5; refine (new_any w1.heap.size _ _ _ (z0.take len0) _ (Nat.le_refl _) (from_own hown) HZ.out hlen').mono ?_; rintro e w2 ⟨p, rfl, ht, hb⟩))
  have hsz := hgrow.size
  have hbel1 : Below w.heap.size w w1 := (((Below.refl _ w).alloc (Nat.le_refl _) _).grown hgrow (by simp) (by intro k hk; simp [Value.ownBlock] at hk; omega))
  have hcopy : Copy w.heap.size w1.heap.size w2 ad' len0 := copy_made hown hb
  have hbel2 : Below w.heap.size w w2 := hbel1.trans (hb.mono hbel1.size)
  have HS : Hid (w.heap.size ≤ w1.heap.size) := hbel1.size
  clear hgrow hown hb hbel1 hsz hzl
  have HR : Hid (Copy w.heap.size w1.heap.size w2 ad' len0 ∧ Below w.heap.size w w2 ∧ TapeAt w1.heap.size w2 p (z0.take len0) 0) := ⟨hcopy, hbel2, ht⟩
  clear hcopy hbel2 ht
  go_loopw [7] (fun i wr => ∃ k : Nat, k ≤ len0 ∧ i = .int .i64 k ∧ Copy w.heap.size w1.heap.size wr ad' len0 ∧ Below w.heap.size w wr ∧ TapeAt w1.heap.size wr p (z0.take len0) 0) (fun i _ => len0 - (intOf i).toNat)
  case atStart => exact ⟨0, Nat.zero_le _, rfl, HR.out⟩
  case round =>
    obtain ⟨k, hk, rfl, hcopy, hbel, ht⟩ := hrel
    have HT : Hid _ := ht
    have HB : Hid _ := hbel
    have HC : Hid _ := hcopy
    clear ht hbel
    by_cases hlt : k < len0
    · rcases hcopy with h0 | ⟨g, cur, rfl, hg0, hg1, hcs, hcur⟩
      · omega
      have hcell : wr.cell? ⟨g, k, none⟩ = some (cur[k]'(by omega)) := by simp [World.cell?, hcur, Array.getElem?_eq_getElem (show k < cur.size by omega)]
      have hfr : wr.frozen? ⟨g, k, none⟩ = false := by simp [World.frozen?, hcur]
      have HCU : Hid _ := hcur
      clear hcur
      go_wp2
      go_roundw
      case rel => exact ⟨k + 1, by omega, by go_num, .inr ⟨g, _, rfl, hg0, hg1, by simpa using hcs, block_setCell HCU.out⟩, HB.out.setCell hg0 _, tape_far HT.out hg1⟩
      case measure => simp [intOf]; omega
    · clear hcopy HC HR
      go_wp2
      have HR : Hid _ := (⟨HB.out, HT.out⟩ : Below w.heap.size w wr ∧ TapeAt w1.heap.size wr p (z0.take len0) 0)
      clear HB HT
      go_loopw [8] (fun i wr => ∃ k : Nat, k ≤ n ∧ i = .int .i64 k ∧ Below w.heap.size w wr ∧ TapeAt w1.heap.size wr p ((z0.take len0).drop k) k) (fun i _ => n - (intOf i).toNat)
      case atStart => exact ⟨0, Nat.zero_le _, rfl, HR.out.1, HR.out.2⟩
      case round =>
        obtain ⟨k, hk, rfl, hbel, ht⟩ := hrel
        have HB : Hid _ := hbel
        clear HR
        by_cases hkn : k < n
        · have hL : ((z0.take len0).drop k).length = len0 - k := by simp; have := HZ.out; simp at this; omega
          obtain ⟨v, hv⟩ : ∃ v, v = ((z0.take len0).drop k).headD 0 := ⟨_, rfl⟩
          have HV : Hid _ := hv
          clear hbel hv
          by_cases hkl : k < len0
          · obtain ⟨b, off, rfl, hcx⟩ : ∃ b off, a0 = some ⟨b, off, none⟩ ∧ wr.cell? ⟨b, off + k, none⟩ = some (.int .u32 v) := by
              rcases W0.out with ⟨_, h0, _⟩ | ⟨x, rfl, hl1, _, hz, hc, _⟩
              · omega
              · obtain ⟨b, off, rfl, hc2⟩ := ints_at hc (by omega)
                refine ⟨b, off, rfl, ?_⟩
                have hck := hc2 k (by omega)
                rw [HB.out.cell (by exact World.block_lt_of_cell? w _ hck), hck, HV.out]
                simp [List.head?_drop, hkl]
            go_wp2_with (first | (go_at_call 6; refine (left_any ht).mono ?_; rintro e w' ⟨rfl, rfl⟩) | (go_at_call 7; refine (taken_any ht).mono ?_; rintro e w' ⟨rfl, rfl⟩) | (go_at_call 8; refine (next_val ht (by omega) (by omega) HV.out).mono ?_; rintro e w' ⟨rfl, ht2, hb2⟩; replace HB : Hid _ := HB.out.trans (hb2.mono HS.out); clear hb2))
            go_roundw
            case rel => exact ⟨k + 1, by omega, by go_num, HB.out, by rw [List.tail_drop] at ht2; exact ht2⟩
            case measure => simp [intOf]; omega
          · have hv0 : v = 0 := by rw [HV.out]; simp [List.head?_drop, List.getElem?_take, hkl]
            subst hv0
            go_wp2_with (first | (go_at_call 6; refine (left_any ht).mono ?_; rintro e w' ⟨rfl, rfl⟩) | (go_at_call 7; refine (taken_any ht).mono ?_; rintro e w' ⟨rfl, rfl⟩) | (go_at_call 8; refine (next_val ht (by omega) (by omega) HV.out).mono ?_; rintro e w' ⟨rfl, ht2, hb2⟩; replace HB : Hid _ := HB.out.trans (hb2.mono HS.out); clear hb2))
            go_roundw
            case rel => exact ⟨k + 1, by omega, by go_num, HB.out, by rw [List.tail_drop] at ht2; exact ht2⟩
            case measure => simp [intOf]; omega
        · have hkn' : k = n := by omega
          clear hbel
          go_wp2_with (first | (go_at_call 7; refine (taken_any ht).mono ?_; rintro e w' ⟨rfl, rfl⟩) | (go_at_call 9; refine (known_any _).mono ?_; rintro e w' ⟨rfl, hk2⟩; replace HB : Hid _ := HB.out.trans (hk2.mono HB.out.size)))
          go_ret
          exact ⟨rfl, HB.out⟩

/-! ### THE ROW's STEP: WRITTEN OUT: LEAVE IT -/
set_option maxRecDepth 100000 in
theorem lifted (os : Os) (started : os.Started) (H : Type) (enc : TypeId × Value → H) :
    ReturnsInHanded {} Try.checked os 3 .any (Rows.tapeDrawsSpec.pre6 enc Try.prog Try.f3 Rows.tapeDrawsRow.domain false) (Rows.tapeDrawsSpec.post enc Try.prog Try.f3 false true false false) := by
  refine returnsInHanded_of_change (C := Try.checked) own started (by kernel_rfl) Try.func3
    (ChangeSpec.witness6 (enc := enc) (C := Try.checked) false ⟨#[], #[.slice none 0 0, .int .i64 0], []⟩ 8 (by kernel_rfl) (by kernel_rfl) (by kernel_rfl) (by kernel_rfl)) ?_
  intro W base args ds gs before hval0 hW hcnd _
  have hval : ∀ (j : Nat) t v, Try.f3.params[j]? = some t → args[j]? = some v → Value.okWide Try.prog W .any base t v := hval0
  have hW' := hW
  obtain ⟨p, q, hA0, hV, rfl, hfz, hnd⟩ := hW
  have hA : DataW.TrodAll enc Try.prog W 0 (fun _ => true) true Try.f3.params.toList args.toList ds p := hA0
  rw [Try.params3] at hA hval
  obtain ⟨v0, vs0, d0, ds0, p0, q0, hargs, rfl, rfl, h0, r0⟩ := trodAll_cons hA
  obtain ⟨v1, vs1, d1, ds1, p1, q1, rfl, rfl, rfl, h1, r1⟩ := trodAll_cons r0
  obtain ⟨rfl, rfl, rfl⟩ := trodAll_nil r1
  obtain rfl : args = #[v0, v1] := by cases args; simp_all
  obtain ⟨rfl, rfl⟩ := trodVars_none hV
  obtain ⟨a0, len0, cap0, rfl⟩ := okWide_slice Try.underlying22 (hval 0 22 v0 rfl rfl)
  have k0 := h0
  have lt0 : ∀ x ∈ p0, x.block < W.heap.size := by obtain ⟨m, hm⟩ := k0; exact DataW.trod_lt m _ _ _ hm
  obtain ⟨z0, w0⟩ : ∃ zs, IsRow .u32 W a0 len0 cap0 zs := by
    obtain ⟨fuel, hf⟩ := h0
    rcases open_ints Try.underlying22 Try.underlying25 (by kernel_rfl) hf with ⟨hcs, _⟩ | ⟨x, l, c, zs, hcs, _, hl, hm, hz, _, hcell, hwz⟩
    · simp [Value.cells] at hcs
      obtain ⟨rfl, rfl, rfl⟩ := hcs
      exact ⟨[], .inl ⟨rfl, rfl, rfl, rfl⟩⟩
    · simp [Value.cells] at hcs
      obtain ⟨rfl, rfl, rfl⟩ := hcs
      exact ⟨zs, .inr ⟨_, rfl, hl, hm, by simpa using hz, hcell, hwz⟩⟩
  obtain ⟨a1, rfl, rfl, rfl, w1⟩ := open_int Try.underlying3 (hval 1 3 v1 rfl rfl) h1
  clear hA0 hval0
  refine (walk a0 len0 cap0 z0 a1 W w0 w1).mono fun e W' ⟨he, bel⟩ => ?_
  subst he
  exact ⟨_, rfl, _, _, _, [], _, [], hW', trodAll_mk1 (shut_bool Try.underlying4 _), (trodAll_cons_mk (Below.trod laidOut (by kernel_rfl) (of_decide_eq_true (by kernel_rfl)) k0 bel lt0) (trodAll_cons_mk (shut_int Try.underlying3 w1) trodAll_mk0)), rfl, bel.frame _, fun h => by cases h⟩

theorem over : Rows.tapeDrawsRow.holds Try.pinned (OpenSpec.ofChange Rows.tapeDrawsSpec) :=
  OpenClaim.holds_of_wide 3 Try.f3 rfl rfl rfl rfl rfl rfl rfl ⟨rfl, rfl, rfl, rfl, rfl⟩ rfl rfl rfl rfl rfl (by kernel_rfl) Try.func3 (by kernel_rfl)
    (of_decide_eq_true (by kernel_rfl)) (by unfold Func.isWrapper; first | (rw [if_pos (by decide +kernel)]; kernel_rfl) | (rw [if_neg (by decide +kernel)]; exact ⟨rfl, rfl⟩))
    (fun os started H enc _ => lifted os started H enc)

end Go.Proofs.Ytdjbcjiobcpghaa.tapeDraws
namespace Go.Proofs.Ytdjbcjiobcpghaa
/-- the given statement -/
theorem tapeDraws_holds : Rows.TapeDrawsSaid := tapeDraws.over
#print axioms tapeDraws_holds
end Go.Proofs.Ytdjbcjiobcpghaa
