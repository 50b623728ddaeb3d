/- A region that draws its order of evaluation, whose operations may lay new memory. -/
import Derived.Test.YtcphhlfbjkeikabGreatCa
import Derived.Test.YtcphhlfbjkeikabGreatAj
namespace Go.Proofs.YtcphhlfbjkeikabGreat
open Go.RowKit

section
variable {P : Program} {ops : Array Oper} {Q : Exit → Act → World → Prop}
theorem wpAny_low (m : Nat) (hn : ops.size = m + 1) (dst : Nat → Nat) (F : Nat → Value → World → Prop) (C : Act → World → Prop)
    (hlex : ∀ (i : Nat) (o : Oper), ops[i]? = some o → ∀ e ∈ o.after, Region.binds .any e = true → e.on < i)
    (hwait : ∀ i, i < m → ∃ j, i < j ∧ j ≤ m ∧ Region.waitsFor .any ops j i = true)
    (hinj : ∀ i j, i < m → j < m → i ≠ j → dst i ≠ dst j) (hlt : ∀ a w, C a w → ∀ i, i < m → dst i < a.tmps.size)
    (hstep : ∀ i, i < m → ∀ a w, C a w → (∀ j, Region.waitsFor .any ops i j = true → F j (a.tmps.getD (dst j) undef) w) →
      wpOp P ops Q i (fun a1 w1 => ∃ v, a1 = a.put (some (dst i)) v ∧ C a1 w1 ∧ F i v w1 ∧ ∀ j u, F j u w → F j u w1) a w)
    (hlast : ∀ a w, C a w → (∀ j, j < m → F j (a.tmps.getD (dst j) undef) w) → wpOp P ops Q m (fun a' w' => Q .normal a' w') a w) :
    ∀ (fuel : Nat) (listed : Array Bool) (a : Act) (w : World), listed.size = m + 1 → unl (m + 1) listed ≤ fuel → listed.getD m true = false → Shutd ops listed → Iv dst F C listed a w → wpAny P .any ops Q fuel listed a w
  | 0, listed, a, w, hsz, hf, hm, _, _ => by
    exfalso
    unfold unl at hf
    have := List.countP_eq_zero.1 (Nat.le_zero.1 hf) m (by simp)
    rw [hm] at this
    simp at this
  | fuel + 1, listed, a, w, hsz, hf, hm, hS, hI => by
    refine ⟨fun h0 => ?_, fun i hi => ?_⟩
    · exfalso
      obtain ⟨i, hi, hmin⟩ : ∃ i, listed.getD i true = false ∧ ∀ k, k < i → listed.getD k true = true := by
        have : ∀ n, listed.getD n true = false → ∃ i, listed.getD i true = false ∧ ∀ k, k < i → listed.getD k true = true := by
          intro n
          induction n using Nat.strongRecOn with
          | _ n ih =>
            intro h
            by_cases hx : ∃ k, k < n ∧ listed.getD k true = false
            · obtain ⟨k, h1, h2⟩ := hx
              exact ih k h1 h2
            · refine ⟨n, h, fun k hk => ?_⟩
              cases hv : listed.getD k true with
              | true => rfl
              | false => exact absurd ⟨k, hk, hv⟩ hx
        exact this m hm
      have hil : i < listed.size := by
        rcases Nat.lt_or_ge i listed.size with h1 | h1
        · exact h1
        · simp [Array.getElem?_eq_none h1] at hi
      have hio : ops[i]? = some ops[i] := Array.getElem?_eq_getElem (by omega)
      have : i ∈ Region.ready .any ops listed := mem_ready.2 ⟨hi, _, hio, fun e he hb => by
        have h1 := hlex i _ hio e he hb
        have h2 := hmin e.on h1
        have h3 : e.on < listed.size := by omega
        simp [h3] at h2 ⊢
        exact h2⟩
      rw [h0] at this
      cases this
    · obtain ⟨hi0, oi, hoi, hall⟩ := mem_ready.1 hi
      have him : i < m + 1 := by
        have := (Array.getElem?_eq_some_iff.1 hoi).1
        omega
      have hdep : ∀ j, Region.waitsFor .any ops i j = true → listed.getD j false = true := fun j hj => by
        obtain ⟨oj, hoj, e, he, hb, rfl⟩ := Region.waitsFor_spec hj
        have : oj = oi := Option.some.inj (hoj.symm.trans hoi)
        subst this
        exact hall e he hb
      rcases Nat.lt_or_ge i m with h1 | h1
      · refine wpOp_mono ?_ (hstep i h1 a w hI.1 (fun j hj => hI.2 j (hdep j hj)))
        rintro _ w' ⟨v, rfl, hC, hF, hmo⟩
        refine wpAny_low m hn dst F C hlex hwait hinj hlt hstep hlast fuel _ _ _ (by simpa using hsz) ?_ ?_ ?_ ⟨hC, fun j hj => ?_⟩
        · have := unl_set him hi0
          omega
        · rw [getD_set_ne true (by omega)]
          exact hm
        · intro k hk j hj
          by_cases hik : i = k
          · subst hik
            exact getD_set_true (hdep j hj)
          · rw [getD_set_ne false hik] at hk
            exact getD_set_true (hS k hk j hj)
        · by_cases hji : i = j
          · subst hji
            rw [put_here (hlt a w hI.1 i h1)]
            exact hF
          · rw [getD_set_ne false hji] at hj
            have hjm : j < m := by
              rcases Nat.lt_or_ge j m with h2 | h2
              · exact h2
              · exfalso
                rcases Nat.lt_or_ge m j with h3 | h3
                · simp [Array.getElem?_eq_none (show listed.size ≤ j by omega)] at hj
                · have : j = m := by omega
                  subst this
                  rw [getD_both hm] at hj
                  cases hj
            rw [put_far (hinj i j h1 hjm hji)]
            exact hmo _ _ (hI.2 j hj)
      · have e1 : i = m := by omega
        subst e1
        have hdown : ∀ n j, j < i → i - j ≤ n → listed.getD j false = true := by
          intro n
          induction n with
          | zero => intro j h2 h3; omega
          | succ n ih =>
            intro j h2 h3
            obtain ⟨k, h4, h5, h6⟩ := hwait j h2
            rcases Nat.lt_or_ge k i with h7 | h7
            · exact hS k (ih k h7 (by omega)) j h6
            · have : k = i := by omega
              subst this
              exact hdep j h6
        have hlisted : ∀ j, j < i → listed.getD j false = true := fun j hj => hdown i j hj (by omega)
        refine wpOp_mono (fun a' w' hq => ?_) (hlast a w hI.1 (fun j hj => hI.2 j (hlisted j hj)))
        have hall1 : ∀ j, j < i + 1 → (listed.setIfInBounds i true).getD j true = true := by
          intro j hj
          by_cases hji : i = j
          · subst hji
            simp [show i < listed.size by omega]
          · rw [getD_set_ne true hji]
            have := hlisted j (by omega)
            have h3 : j < listed.size := by omega
            simp [h3] at this ⊢
            exact this
        have hr : Region.ready .any ops (listed.setIfInBounds i true) = [] := by
          rw [List.eq_nil_iff_forall_not_mem]
          intro j hj
          obtain ⟨h2, o, ho, _⟩ := mem_ready.1 hj
          have h3 := (Array.getElem?_eq_some_iff.1 ho).1
          rw [hall1 j (by omega)] at h2
          cases h2
        cases fuel with
        | zero => exact ⟨hr, hq⟩
        | succ f => exact ⟨fun _ => hq, by rw [hr]; simp⟩
theorem region_low {id : Nat} {a : Act} {w : World} (hmx : P.follows .mixedOrders = true) (m b : Nat) (hn : ops.size = m + 1) (F : Nat → Value → World → Prop) (C : World → Prop)
    (hlex : ∀ (i : Nat) (o : Oper), ops[i]? = some o → ∀ e ∈ o.after, Region.binds .any e = true → e.on < i)
    (hwait : ∀ i, i < m → ∃ j, i < j ∧ j ≤ m ∧ Region.waitsFor .any ops j i = true)
    (hsz : b + m < a.tmps.size) (hC0 : C w.drew)
    (hstep : ∀ i, i ≤ m → ∀ a' W, C W → Still b m a a' → (∀ j, Region.waitsFor .any ops i j = true → F j (a'.tmps.getD (b + j) undef) W) →
      wpOp P ops Q i (fun a1 w1 => ∃ v, a1 = a'.put (some (b + i)) v ∧ C w1 ∧ F i v w1 ∧ ∀ j u, F j u W → F j u w1) a' W)
    (hQ : ∀ (vs : Nat → Value) W, C W → (∀ j, j ≤ m → F j (vs j) W) → Q .normal (fillA b vs (m + 1) a) W) : (Code.region id ops true).wp P Q a w := by
  have hlt : ∀ i, i < m → ∀ j, j < m → i ≠ j → b + i ≠ b + j := by omega
  refine wp_region_any hmx (wpAny_low m hn (fun j => b + j) F (fun a' W => C W ∧ Still b m a a') hlex hwait (fun i j hi hj h => hlt i hi j hj h) ?_ ?_ ?_ ops.size _ _ _ (by simp [hn]) ?_ (by simp [hn]) (fun k hk => by rw [getD_replicate_false] at hk; cases hk) ⟨⟨hC0, rfl, rfl, fun _ _ => rfl⟩, fun j hj => ?_⟩)
  · rintro a' W ⟨_, h⟩ i hi
    rw [h.2.1]
    omega
  · rintro i hi a' W ⟨hc, h⟩ hdep
    refine wpOp_mono ?_ (hstep i (by omega) a' W hc h hdep)
    rintro a1 w1 ⟨v, rfl, h1, h2, h3⟩
    exact ⟨v, rfl, ⟨h1, h.put (by omega)⟩, h2, h3⟩
  · rintro a' W ⟨hc, h⟩ hall
    refine wpOp_mono ?_ (hstep m (Nat.le_refl _) a' W hc h (fun j hj => hall j ?_))
    · rintro a1 w1 ⟨v, rfl, h1, h2, h3⟩
      have hp := h.put (v := v) (Nat.le_refl m)
      have e1 : a'.put (some (b + m)) v = fillA b (fun j => if j = m then v else a'.tmps.getD (b + j) undef) (m + 1) a := by
        refine act_ext (by rw [fillA_size]; exact hp.2.1) (fun k hk => ?_) (by rw [fillA_defers]; exact hp.1)
        rw [fillA_at _ _ _ _ _ (by omega)]
        by_cases hr : b ≤ k ∧ k < b + (m + 1)
        · rw [if_pos hr]
          by_cases e : b + m = k
          · subst e
            rw [put_here (by rw [h.2.1]; omega), if_pos (by omega)]
          · rw [put_far e, if_neg (by omega), show b + (k - b) = k by omega]
        · rw [if_neg hr, hp.2.2 k (by omega)]
      rw [e1]
      refine hQ _ _ h1 (fun j hj => ?_)
      by_cases e : j = m
      · subst e
        simp only [if_true]
        exact h2
      · simp only [if_neg e]
        exact h3 _ _ (hall j (by omega))
    · obtain ⟨oj, hoj, e, he, hb, rfl⟩ := Region.waitsFor_spec hj
      exact hlex m oj hoj e he hb
  · unfold unl
    refine Nat.le_trans List.countP_le_length ?_
    simp [hn]
  · rw [getD_replicate_false] at hj
    cases hj
end
/-- two rows are one -/
def eqb (xs ys : List ByteArray) : Bool := decide (xs = ys)
set_option maxRecDepth 20000 in
set_option maxHeartbeats 1000000 in
theorem texts_any {w : World} {a1 a2 : Option Addr} {c1 c2 : Nat} {xs ys : List ByteArray} (h1 : RowIn Value.string w a1 xs) (h2 : RowIn Value.string w a2 ys) (hx : xs.length ≤ 1000000) (hy : ys.length ≤ 1000000) :
    Calls Tryz.prog 18 #[.slice a1 xs.length c1, .slice a2 ys.length c2] w fun e w' => e = .returned (.bool (eqb xs ys)) ∧ Below w.heap.size w w' := by
  have H1 : Hid (RowIn Value.string w a1 xs) := h1
  have H2 : Hid (RowIn Value.string w a2 ys) := h2
  clear h1 h2
  by_cases hl : xs.length = ys.length
  · have HL : Hid (xs.length = ys.length) := hl
    rw [← hl]
    go_enter Tryz.func18, Tryz.ntmps18
    go_wp2_with fail
    go_loopw [5] (fun i wr => ∃ k : Nat, k ≤ xs.length ∧ i = .int .i64 k ∧ xs.take k = ys.take k ∧ Below w.heap.size w wr) (fun i _ => xs.length - (intOf i).toNat)
    case atStart => exact ⟨0, Nat.zero_le _, rfl, rfl, Below.refl _ _⟩
    case round =>
      obtain ⟨k, hk, rfl, hT, hB⟩ := hrel
      have HT : Hid (xs.take k = ys.take k) := hT
      have HB : Hid (Below w.heap.size w wr) := hB
      rcases Nat.lt_or_ge k xs.length with hlt | hge
      · obtain ⟨x, hx'⟩ : ∃ x, xs[k]? = some x := ⟨_, List.getElem?_eq_getElem hlt⟩
        obtain ⟨y, hy'⟩ : ∃ y, ys[k]? = some y := ⟨_, List.getElem?_eq_getElem (by omega)⟩
        obtain ⟨g1, o1, rfl, c1'⟩ := (H1.out.later hB).at hx'
        obtain ⟨g2, o2, rfl, c2'⟩ := (H2.out.later hB).at hy'
        have HX : Hid (xs[k]? = some x) := hx'
        have HY : Hid (ys[k]? = some y) := hy'
        have hbe : (x.toList == y.toList) = decide (x = y) := texts_beq x y
        clear hT hB hx' hy' hl
        by_cases hxy : x = y
        · have hb2 : (x.toList == y.toList) = true := by rw [hbe]; exact decide_eq_true hxy
          have HXY : Hid (x = y) := hxy
          clear hbe hxy
          go_wp2_with fail
          refine region_same (by kernel_rfl) 8 17 rfl (fun j => [(.slice (some ⟨g1, o1, none⟩) xs.length c1 : Value), (.int .i64 (k : Nat) : Value), (.pointer (some ⟨g1, o1 + k, none⟩) : Value), (.string x : Value), (.slice (some ⟨g2, o2, none⟩) xs.length c2 : Value), (.int .i64 (k : Nat) : Value), (.pointer (some ⟨g2, o2 + k, none⟩) : Value), (.string y : Value), (.bool false : Value)].getD j undef) (lex_of (by kernel_rfl)) (wait_of (by kernel_rfl)) (by simp) ?_ ?_
          · intro i hi a' hst hdep Kc hKc
            have hcase : i = 0 ∨ i = 1 ∨ i = 2 ∨ i = 3 ∨ i = 4 ∨ i = 5 ∨ i = 6 ∨ i = 7 ∨ i = 8 := by omega
            rcases hcase with e1 | e1 | e1 | e1 | e1 | e1 | e1 | e1 | e1
            · subst e1
              have o0 := hst.at 0 (by omega)
              simp at o0
              refine still_op rfl rfl ?_
              simp [Oper.wp, execOp, Act.eval, go_sem, o0]
              exact hKc
            · subst e1
              have o5 := hst.at 5 (by omega)
              simp at o5
              refine still_op rfl rfl ?_
              simp [Oper.wp, execOp, Act.eval, go_sem, o5]
              exact hKc
            · subst e1
              have d0 : a'.tmps[17]?.getD undef = .slice (some ⟨g1, o1, none⟩) xs.length c1 := by simpa using hdep 0 (by kernel_rfl)
              have d1 : a'.tmps[18]?.getD undef = .int .i64 (k : Nat) := by simpa using hdep 1 (by kernel_rfl)
              refine still_op rfl rfl ?_
              simp [Oper.wp, execOp, Act.eval, go_sem, d0, d1, hlt]
              exact hKc
            · subst e1
              have d2 : a'.tmps[19]?.getD undef = .pointer (some ⟨g1, o1 + k, none⟩) := by simpa using hdep 2 (by kernel_rfl)
              refine still_op rfl rfl ?_
              simp [Oper.wp, execOp, Act.eval, go_sem, d2, c1']
              exact hKc
            · subst e1
              have o1 := hst.at 1 (by omega)
              simp at o1
              refine still_op rfl rfl ?_
              simp [Oper.wp, execOp, Act.eval, go_sem, o1]
              exact hKc
            · subst e1
              have o5 := hst.at 5 (by omega)
              simp at o5
              refine still_op rfl rfl ?_
              simp [Oper.wp, execOp, Act.eval, go_sem, o5]
              exact hKc
            · subst e1
              have d4 : a'.tmps[21]?.getD undef = .slice (some ⟨g2, o2, none⟩) xs.length c2 := by simpa using hdep 4 (by kernel_rfl)
              have d5 : a'.tmps[22]?.getD undef = .int .i64 (k : Nat) := by simpa using hdep 5 (by kernel_rfl)
              refine still_op rfl rfl ?_
              simp [Oper.wp, execOp, Act.eval, go_sem, d4, d5, hlt]
              exact hKc
            · subst e1
              have d6 : a'.tmps[23]?.getD undef = .pointer (some ⟨g2, o2 + k, none⟩) := by simpa using hdep 6 (by kernel_rfl)
              refine still_op rfl rfl ?_
              simp [Oper.wp, execOp, Act.eval, go_sem, d6, c2']
              exact hKc
            · subst e1
              have d3 : a'.tmps[20]?.getD undef = .string x := by simpa using hdep 3 (by kernel_rfl)
              have d7 : a'.tmps[24]?.getD undef = .string y := by simpa using hdep 7 (by kernel_rfl)
              refine still_op rfl rfl ?_
              simp [Oper.wp, execOp, Act.eval, go_sem, d3, d7, hb2]
              exact hKc
          simp only [fillA, Act.put, List.setIfInBounds_toArray, List.set_cons_succ, List.set_cons_zero, List.getD_cons_zero, List.getD_cons_succ, Nat.reduceAdd, Nat.add_zero]
          go_wp2_with fail
          go_roundw
          case rel =>
            refine ⟨k + 1, hlt, by go_num, ?_, below_trans' HB.out (Below.refl _ _).drew⟩
            rw [List.take_add_one, List.take_add_one, HX.out, HY.out, HT.out, HXY.out]
          case measure => simp [intOf]; omega
        · have hb2 : (x.toList == y.toList) = false := by rw [hbe]; exact decide_eq_false hxy
          have HN : Hid (eqb xs ys = false) := by
            show eqb xs ys = false
            unfold eqb
            rw [decide_eq_false_iff_not]
            rintro rfl
            have h1 := HX.out
            rw [HY.out] at h1
            cases h1
            exact hxy rfl
          clear hbe hxy
          go_wp2_with fail
          refine region_same (by kernel_rfl) 8 17 rfl (fun j => [(.slice (some ⟨g1, o1, none⟩) xs.length c1 : Value), (.int .i64 (k : Nat) : Value), (.pointer (some ⟨g1, o1 + k, none⟩) : Value), (.string x : Value), (.slice (some ⟨g2, o2, none⟩) xs.length c2 : Value), (.int .i64 (k : Nat) : Value), (.pointer (some ⟨g2, o2 + k, none⟩) : Value), (.string y : Value), (.bool true : Value)].getD j undef) (lex_of (by kernel_rfl)) (wait_of (by kernel_rfl)) (by simp) ?_ ?_
          · intro i hi a' hst hdep Kc hKc
            have hcase : i = 0 ∨ i = 1 ∨ i = 2 ∨ i = 3 ∨ i = 4 ∨ i = 5 ∨ i = 6 ∨ i = 7 ∨ i = 8 := by omega
            rcases hcase with e1 | e1 | e1 | e1 | e1 | e1 | e1 | e1 | e1
            · subst e1
              have o0 := hst.at 0 (by omega)
              simp at o0
              refine still_op rfl rfl ?_
              simp [Oper.wp, execOp, Act.eval, go_sem, o0]
              exact hKc
            · subst e1
              have o5 := hst.at 5 (by omega)
              simp at o5
              refine still_op rfl rfl ?_
              simp [Oper.wp, execOp, Act.eval, go_sem, o5]
              exact hKc
            · subst e1
              have d0 : a'.tmps[17]?.getD undef = .slice (some ⟨g1, o1, none⟩) xs.length c1 := by simpa using hdep 0 (by kernel_rfl)
              have d1 : a'.tmps[18]?.getD undef = .int .i64 (k : Nat) := by simpa using hdep 1 (by kernel_rfl)
              refine still_op rfl rfl ?_
              simp [Oper.wp, execOp, Act.eval, go_sem, d0, d1, hlt]
              exact hKc
            · subst e1
              have d2 : a'.tmps[19]?.getD undef = .pointer (some ⟨g1, o1 + k, none⟩) := by simpa using hdep 2 (by kernel_rfl)
              refine still_op rfl rfl ?_
              simp [Oper.wp, execOp, Act.eval, go_sem, d2, c1']
              exact hKc
            · subst e1
              have o1 := hst.at 1 (by omega)
              simp at o1
              refine still_op rfl rfl ?_
              simp [Oper.wp, execOp, Act.eval, go_sem, o1]
              exact hKc
            · subst e1
              have o5 := hst.at 5 (by omega)
              simp at o5
              refine still_op rfl rfl ?_
              simp [Oper.wp, execOp, Act.eval, go_sem, o5]
              exact hKc
            · subst e1
              have d4 : a'.tmps[21]?.getD undef = .slice (some ⟨g2, o2, none⟩) xs.length c2 := by simpa using hdep 4 (by kernel_rfl)
              have d5 : a'.tmps[22]?.getD undef = .int .i64 (k : Nat) := by simpa using hdep 5 (by kernel_rfl)
              refine still_op rfl rfl ?_
              simp [Oper.wp, execOp, Act.eval, go_sem, d4, d5, hlt]
              exact hKc
            · subst e1
              have d6 : a'.tmps[23]?.getD undef = .pointer (some ⟨g2, o2 + k, none⟩) := by simpa using hdep 6 (by kernel_rfl)
              refine still_op rfl rfl ?_
              simp [Oper.wp, execOp, Act.eval, go_sem, d6, c2']
              exact hKc
            · subst e1
              have d3 : a'.tmps[20]?.getD undef = .string x := by simpa using hdep 3 (by kernel_rfl)
              have d7 : a'.tmps[24]?.getD undef = .string y := by simpa using hdep 7 (by kernel_rfl)
              refine still_op rfl rfl ?_
              simp [Oper.wp, execOp, Act.eval, go_sem, d3, d7, hb2]
              exact hKc
          simp only [fillA, Act.put, List.setIfInBounds_toArray, List.set_cons_succ, List.set_cons_zero, List.getD_cons_zero, List.getD_cons_succ, Nat.reduceAdd, Nat.add_zero]
          go_wp2_with fail
          go_ret
          exact ⟨by rw [HN.out]; rfl, below_trans' HB.out (Below.refl _ _).drew⟩
      · have hk' : k = xs.length := by omega
        subst hk'
        have HN : Hid (eqb xs ys = true) := by
          show eqb xs ys = true
          unfold eqb
          rw [decide_eq_true_eq]
          have h1 := HT.out
          rw [List.take_length, hl, List.take_length] at h1
          exact h1
        clear hT hB hl
        go_wp2_with fail
        go_ret
        exact ⟨by rw [HN.out]; rfl, HB.out⟩
  · go_enter Tryz.func18, Tryz.ntmps18
    have hne : eqb xs ys = false := by unfold eqb; rw [decide_eq_false_iff_not]; rintro rfl; exact hl rfl
    have HN : Hid _ := hne
    clear hne
    go_wp2_with fail
    go_ret
    exact ⟨by rw [HN.out]; rfl, Below.refl _ _⟩
end Go.Proofs.YtcphhlfbjkeikabGreat
