/- The document's answer (hoardref6): Keys, Put. -/
import Derived.Test.YtpfcmaoookhopaaRef2
namespace Go.Proofs.Ytpfcmaoookhopaa
open Go.RowKit

theorem Try.info60 : (Try.prog.info? 60).map (fun i => (i.zero, i.size, i.bytes)) = some (some (.agg #[.string ByteArray.empty, .int .i64 0]), 2, 24) := by kernel_rfl
section
variable {D : Nat → Prop} {w w' : World} {x : Nat} {A B l : List (ByteArray × Int)} {ad : Option Addr} {cap b : Nat} {m : ByteArray → Option Int}
theorem says_keyed (hr : Rising l) (hs : Says l m) : Keyed m (l.map (·.1)) := by
  refine ⟨by rw [List.pairwise_map]; exact hr, fun k => ?_⟩
  rw [Option.isSome_iff_exists]
  constructor
  · intro h
    obtain ⟨e, he, rfl⟩ := List.mem_map.1 h
    exact ⟨e.2, (hs _ _).2 he⟩
  · rintro ⟨v, hv⟩
    exact List.mem_map.2 ⟨(k, v), (hs k v).1 hv, rfl⟩
set_option maxHeartbeats 1000000 in
theorem rkeys_any (H : RX x m b D w) (hb : b ≤ 1000000) :
    Calls Try.prog 16 #[.pointer (some ⟨x, 0, none⟩)] w fun e w' => ∃ (ts : List ByteArray) (ad : Option Addr) (cap : Nat), e = .returned (.slice ad ts.length cap) ∧ Keyed m ts ∧ w'.ownsRow w.heap.size 9 1 (.slice ad ts.length cap) ts.length (ts.map Value.string) ∧ Below w.heap.size w w' := by
  obtain ⟨i0, hi, hz0, hz1, hz2⟩ := info_parts Try.info9
  obtain ⟨l, ad, cap, H, hr, hs, hl⟩ := H
  have HK : Hid (Keyed m (l.map (·.1))) := says_keyed hr hs
  have HH : Hid (RefIn D w x l ad cap) := H
  clear H hr hs
  go_enter Try.func16, Try.ntmps16
  go_wp2
  go_loopw [3, 4] (fun v i wr => ∃ (k : Nat) (ad1 : Option Addr) (cap1 : Nat), k ≤ l.length ∧ i = .int .i64 k ∧ v = .slice ad1 k cap1 ∧ wr.ownsRow w.heap.size 9 1 (.slice ad1 k cap1) k ((l.take k).map fun e => Value.string e.1) ∧ Below w.heap.size w wr) (fun _ i _ => l.length - (intOf i).toNat)
  case atStart => exact ⟨0, none, 0, Nat.zero_le _, rfl, rfl, World.ownsRow_nil _ _ _ _, Below.refl _ _⟩
  case round =>
    obtain ⟨k, ad1, cap1, hk, rfl, rfl, hown, hbe⟩ := hrel
    obtain ⟨c0, -⟩ := (HH.out.below hbe).top
    have hW := hbe.size
    rcases Nat.lt_or_ge k l.length with hlt | hge
    · obtain ⟨e, he⟩ : ∃ e, l[k]? = some e := ⟨_, List.getElem?_eq_getElem hlt⟩
      obtain ⟨g, rfl, hgx, hDg, d0, d1, -⟩ := (HH.out.below hbe).cell he
      have HT : Hid ((l.take (k + 1)).map (fun e => Value.string e.1) = (l.take k).map (fun e => Value.string e.1) ++ [Value.string e.1]) := by
        show _ = _
        rw [List.take_add_one, he, List.map_append]
        rfl
      clear he
      go_wp2_with (at_builtin; go_must (refine wpList_append_from _ rfl _ _ 36 rfl w.heap.size 9 i0 _ 1 16 Try.underlying36 hi hz0 hz1 hz2 rfl (by omega) (.slice ad1 k cap1) k _ rfl (hown.alloc _) _ 1 1 _ rfl (one_new _ _ 9 rfl) (by unfold maxLen; omega) (by omega) (by simp; omega) ?_); intro ad2 cap2 w2 hc2 hown2 hgrow2 hat2; have hb2 : Below w.heap.size w w2 := (hbe.alloc hW _).grown hgrow2 (by simp; omega) (fun k e => (hown.lt k e).1); clear hgrow2 hat2)
      go_roundw
      case rel => exact ⟨k + 1, ad2, cap2, hlt, by go_num, rfl, by rw [HT.out]; exact hown2, hb2⟩
      case measure => simp [intOf]; omega
    · have hk' : k = l.length := by omega
      subst hk'
      rw [List.take_length] at hown
      clear hge hk
      go_wp2_with fail
      go_ret
      refine ⟨l.map (·.1), ad1, cap1, by rw [List.length_map]; rfl, HK.out, ?_, hbe⟩
      rw [List.length_map, List.map_map]
      exact hown
/-! ### Put -/
theorem rising_over {k : ByteArray} {v u : Int} (h : Rising (A ++ (k, v) :: B)) : Rising (A ++ (k, u) :: B) := by
  rw [Rising, List.pairwise_append, List.pairwise_cons] at h ⊢
  refine ⟨h.1, h.2.1, fun a ha c hc => ?_⟩
  rcases List.mem_cons.1 hc with rfl | hc
  · exact h.2.2 a ha (k, v) (by simp)
  · exact h.2.2 a ha c (by simp [hc])
theorem says_over {k : ByteArray} {v u : Int} (hr : Rising (A ++ (k, v) :: B)) (h : Says (A ++ (k, v) :: B) m) : Says (A ++ (k, u) :: B) (put m k (some u)) := by
  have hr2 : Rising (A ++ (k, u) :: B) := rising_over hr
  rw [Rising, List.pairwise_append, List.pairwise_cons] at hr
  intro y z
  by_cases e : y = k
  · subst e
    rw [put_same]
    constructor
    · intro hz; cases hz; simp
    · intro hm
      rcases List.mem_append.1 hm with hm | hm
      · exact absurd (hr.2.2 _ hm (y, v) (by simp)) (lt_irr _)
      · rcases List.mem_cons.1 hm with hm | hm
        · cases hm; rfl
        · exact absurd (hr.2.1.1 _ hm) (lt_irr _)
  · rw [put_far e, h y z]
    simp [e]
theorem RefIn.setVal {g : Nat} {k : ByteArray} {v : Int} (h : RefIn D w x (A ++ (k, v) :: B) (some ⟨g, 0, none⟩) cap) (u : Int) : RefIn D (w.setCell ⟨g, A.length * 2 + 1, none⟩ (.int .i64 u)) x (A ++ (k, u) :: B) (some ⟨g, 0, none⟩) cap := by
  obtain ⟨h1, h2, h3, h4, h5⟩ := h
  have hl : (A ++ (k, u) :: B).length = (A ++ (k, v) :: B).length := by simp
  rw [RefIn, hl]
  refine ⟨h1, ?_, ?_, h4, h5⟩
  · rw [Below.heap_setCell _ _ _ _ (by intro e; exact h4 (by rw [e]; rfl))]
    exact h2
  · have := ownsRow_setCell (k := A.length * 2 + 1) (u := .int .i64 u) h3
    rw [prow_set] at this
    exact this
set_option maxHeartbeats 1000000 in
theorem rput_hit (H : RX x m b D w) (hb : b ≤ 1000000) (k : ByteArray) (u : Int) {v : Int} (hm : m k = some v) :
    Calls Try.prog 27 #[.pointer (some ⟨x, 0, none⟩), .string k, .int .i64 u] w fun e w' => e = .returned (.bool false) ∧ RX x (put m k (some u)) (b + 1) D w' ∧ Keeps D w w' := by
  obtain ⟨l, ad, cap, H, hr, hs, hl⟩ := H
  obtain ⟨A, B, rfl, hA⟩ := cut_hit hr hs hm
  have hat := rat_hit H hA hr (by omega)
  obtain ⟨c0, f0⟩ := H.top
  obtain ⟨g, rfl, hgx, hDg, d0, d1, f1⟩ := H.cell (i := A.length) (e := (k, v)) (by simp)
  have hlt : A.length < (A ++ (k, v) :: B).length := by simp
  have HR : Hid (∀ q, RX x (put m k (some u)) (b + 1) D ((w.drewN q).setCell ⟨g, A.length * 2 + 1, none⟩ (.int .i64 u))) := fun q => ⟨_, _, _, (H.drewN q).setVal u, rising_over hr, says_over hr hs, by simp at hl ⊢; omega⟩
  obtain ⟨n, hn⟩ : ∃ n, n = (A ++ (k, v) :: B).length := ⟨_, rfl⟩
  rw [← hn] at c0 hlt hl
  clear H hr hs hm hn hA
  go_enter Try.func27, Try.ntmps27
  go_wp2_with (go_at_call 38; refine hat.mono ?_; rintro e w1 ⟨rfl, q, rfl⟩; clear hat)
  go_ret
  exact ⟨rfl, HR.out _, ((Keeps.refl D w).drewN _).setCell hDg _⟩
/-- another row -/
theorem RefIn.newL (h : RefIn D w x l ad cap) (hb : Below w.heap.size w w') {l' : List (ByteArray × Int)} {ad' : Option Addr} {n cap' : Nat} (hn : l'.length = n) (ho : w'.ownsRow 0 60 2 (.slice ad' n cap') n (prow l'))
    (hf : ∀ g, (Value.slice ad' n cap').ownBlock = some g → w.heap.size ≤ g) (hD : ∀ k, w.heap.size ≤ k → D k) : RefIn D (w'.setCell ⟨x, 0, none⟩ (.slice ad' n cap')) x l' ad' cap' := by
  subst hn
  obtain ⟨h1, h2, h3, h4, h5⟩ := h
  have hlt := lt_of_block h2
  have hne : (Value.slice ad' l'.length cap').ownBlock ≠ some x := fun e => by have := hf x e; omega
  refine ⟨h1, ?_, ownsRow_setCell_far ho hne, hne, fun g e => hD g (hf g e)⟩
  rw [block_setCell ((hb.block x hlt).trans h2)]
  rfl
theorem rising_new {k : ByteArray} {u : Int} (h : Rising (A ++ B)) (hA : ∀ a ∈ A, bts a.1 < bts k) (hB : ∀ c ∈ B, bts k < bts c.1) : Rising (A ++ (k, u) :: B) := by
  rw [Rising, List.pairwise_append] at h
  rw [Rising, List.pairwise_append, List.pairwise_cons]
  refine ⟨h.1, ⟨hB, h.2.1⟩, fun a ha c hc => ?_⟩
  rcases List.mem_cons.1 hc with rfl | hc
  · exact hA a ha
  · exact h.2.2 a ha c hc
theorem says_new {k : ByteArray} {u : Int} (h : Says (A ++ B) m) (hm : m k = none) : Says (A ++ (k, u) :: B) (put m k (some u)) := by
  intro y z
  by_cases e : y = k
  · subst e
    rw [put_same]
    constructor
    · intro hz; cases hz; simp
    · intro hz
      have hno : (y, z) ∉ A ++ B := fun h2 => by have := (h y z).2 h2; rw [hm] at this; cases this
      simp at hz hno
      rcases hz with hz | hz | hz
      · exact absurd hz hno.1
      · rw [hz]
      · exact absurd hz hno.2
  · rw [put_far e, h y z]
    simp [e]
theorem own_new {Wa : World} {q : Nat} {ad' ad2 : Option Addr} {n2 cap2 m cap' : Nat} (hq : ∀ k, (Value.slice ad2 n2 cap2).ownBlock = some k → q ≤ k) (hs : q ≤ Wa.heap.size)
    (h : (Value.slice ad' m cap').ownBlock = (Value.slice ad2 n2 cap2).ownBlock ∨ (Value.slice ad' m cap').ownBlock = some Wa.heap.size) : ∀ k, (Value.slice ad' m cap').ownBlock = some k → q ≤ k := by
  intro k e
  rcases h with h | h
  · exact hq k (h ▸ e)
  · rw [h] at e; cases e; exact hs
theorem two_new (w : World) (a b : Value) (ha : a.oneCell' = true) (hb : b.oneCell' = true) : FromRow (w.alloc (.cells #[a, b] 60)) 2 (some ⟨w.heap.size, 0, none⟩) 1 1 [a, b] := by
  refine .inr ⟨_, rfl, rfl, ?_, ?_⟩
  · intro j u hu
    have := heap_alloc_new w (.cells #[a, b] 60)
    rw [show (⟨w.heap.size, 0, none⟩ : Addr).add j = ⟨w.heap.size, j, none⟩ by simp [Addr.add_lit], cell_of_block this]
    simpa using hu
  · intro u hu
    simp at hu
    rcases hu with rfl | rfl
    · exact ha
    · exact hb
end
end Go.Proofs.Ytpfcmaoookhopaa
