/- The machine of chapter 12 under keys that come once: they go in the order in which they came. -/
import Derived.Test.YtnbfokmodjgaaabDoorAj
namespace Go.Proofs.YtnbfokmodjgaaabDoor.A

theorem ks_trim {κ : Type} {n : Nat} {l : List (It κ)} {k : κ} (h : k ∈ ks (trim n l)) : k ∈ ks l := by
  rw [ks_mem] at h ⊢
  obtain ⟨x, hx, e⟩ := h
  exact ⟨x, List.mem_of_mem_drop hx, e⟩
theorem ks_new {κ : Type} (l : List κ) : ks (l.map (fun k => (⟨k, 0⟩ : It κ))) = l := by
  unfold ks
  rw [List.map_map]
  exact List.map_id l
section
variable {κ : Type} [DecidableEq κ]
structure First (s : St κ) (l : List κ) (i : Nat) : Prop where
  ok : Ok s
  t1 : s.t1 = ((l.take i).drop (i - s.c)).map (fun k => ⟨k, 0⟩)
  t2 : s.t2 = []
  out : ∀ k, k ∈ ks s.b1 → k ∈ l.take i
theorem start_first {c : Nat} (h : 1 ≤ c) (h2 : c ≤ 1024) (l : List κ) : First (start c : St κ) l 0 := ⟨start_ok h h2, by simp [start], rfl, by simp [start, ks]⟩
theorem first_new {s : St κ} {l : List κ} {i : Nat} {key : κ} (h : First s l i) (hi : l[i]? = some key) (hn : key ∉ l.take i) :
    First (access s key).2.2 l (i + 1) ∧ (access s key).2.2.c = s.c ∧ (access s key).1 = false ∧ (access s key).2.1 = (if i < s.c then [] else (l[i - s.c]?).toList) := by
  have hil : i < l.length := by
    rcases Nat.lt_or_ge i l.length with h | h
    · exact h
    · rw [List.getElem?_eq_none h] at hi; cases hi
  have hkt : ks s.t1 = (l.take i).drop (i - s.c) := by rw [h.t1, ks_new]
  have hk1 : key ∉ ks s.t1 := fun h1 => hn (by rw [hkt] at h1; exact List.mem_of_mem_drop h1)
  have hk3 : key ∉ ks s.b1 := fun h1 => hn (h.out key h1)
  have hlen : s.t1.length = i - (i - s.c) := by rw [h.t1]; simp; omega
  have hlo := h.ok.lo
  have hl2 : s.t2.length = 0 := by rw [h.t2]; rfl
  have hM := acc_any h.ok key
  have hnk : key ∉ keys s := by
    unfold keys
    rw [h.t2]
    simpa [ks] using hk1
  have hacc : access s key = (false, (reclaim s).1, comes (reclaim s).2 key) := by
    unfold access
    rw [if_neg hnk]
  have htk : l.take (i + 1) = l.take i ++ [key] := by rw [List.take_add_one, hi]; rfl
  rw [hacc] at hM ⊢
  rcases Nat.lt_or_ge i s.c with hc | hc
  · have hr := rec_room (s := s) (by omega)
    rw [hr] at hM ⊢
    have hcm : comes s key = newest s key := by unfold comes; rw [if_neg (show key ∉ ghosts s from hk3)]
    have hM2 : Ok (comes s key) ∧ (comes s key).c = s.c := hM
    refine ⟨⟨hM2.1, ?_, ?_, fun k hk => ?_⟩, hM2.2, rfl, by rw [if_pos hc]⟩
    · show (comes s key).t1 = ((l.take (i + 1)).drop (i + 1 - (comes s key).c)).map _
      rw [hM2.2, hcm]
      show s.t1 ++ [⟨key, 0⟩] = _
      rw [h.t1, htk, show i + 1 - s.c = 0 by omega, show i - s.c = 0 by omega]
      simp
    · show (comes s key).t2 = []
      rw [hcm]
      exact h.t2
    · have hk' : k ∈ ks (comes s key).b1 := hk
      rw [hcm] at hk'
      rw [htk]; exact List.mem_append_left _ (h.out k hk')
  · have hr := rec_full (s := s) (by omega)
    have hlate : late s = false := by unfold late; rw [hl2]; simp
    obtain ⟨x, r, ht⟩ : ∃ x r, s.t1 = x :: r := by
      cases hm : s.t1 with
      | nil => rw [hm] at hlen; simp at hlen; omega
      | cons x r => exact ⟨x, r, rfl⟩
    have hx0 : x.n = 0 := by
      have : x ∈ s.t1 := by rw [ht]; simp
      rw [h.t1] at this
      obtain ⟨k, _, rfl⟩ := List.mem_map.1 this
      rfl
    have hg : goes s = ([x.key], ghosted { s with t1 := r, t2 := [] } x.key) := by
      unfold goes
      rw [if_neg (by rw [hlate]; simp)]
      unfold goesS
      rw [ht, h.t2, fromS, if_neg (by omega)]
    rw [hr, hg] at hM ⊢
    have hM2 : Ok (comes (ghosted { s with t1 := r, t2 := [] } x.key) key) ∧ (comes (ghosted { s with t1 := r, t2 := [] } x.key) key).c = s.c := hM
    have hgh : ∀ k, k ∈ ghosts (ghosted { s with t1 := r, t2 := [] } x.key) → k ∈ ks s.b1 ∨ k = x.key := fun k hk => by
      have h1 : k ∈ ks (s.b1 ++ [⟨x.key, 0⟩]) := ks_trim hk
      rw [ks_snoc, List.mem_append, List.mem_singleton] at h1
      exact h1
    have hxk : x.key ∈ ks s.t1 := by rw [ht, ks_cons]; simp
    have hcm : comes (ghosted { s with t1 := r, t2 := [] } x.key) key = newest (ghosted { s with t1 := r, t2 := [] } x.key) key := by
      unfold comes
      rw [if_neg]
      intro h1
      rcases hgh key h1 with h2 | h2
      · exact hk3 h2
      · exact hk1 (by rw [h2]; exact hxk)
    have hgl : l[i - s.c]? = some x.key := by
      have h1 : (ks s.t1)[0]? = some x.key := by rw [ht, ks_cons]; rfl
      rw [hkt, List.getElem?_drop, Nat.add_zero, List.getElem?_take] at h1
      rw [if_pos (by omega)] at h1
      exact h1
    have hr' : r = ((l.take i).drop (i - s.c + 1)).map (fun k => ⟨k, 0⟩) := by
      have h1 : s.t1.drop 1 = r := by rw [ht]; rfl
      rw [← h1, h.t1, ← List.map_drop, List.drop_drop]
    refine ⟨⟨hM2.1, ?_, ?_, fun k hk => ?_⟩, hM2.2, rfl, by rw [if_neg (by omega), hgl]; rfl⟩
    · show (comes (ghosted { s with t1 := r, t2 := [] } x.key) key).t1 = ((l.take (i + 1)).drop (i + 1 - (comes (ghosted { s with t1 := r, t2 := [] } x.key) key).c)).map _
      rw [hM2.2, hcm]
      show r ++ [⟨key, 0⟩] = _
      rw [hr', htk, show i + 1 - s.c = i - s.c + 1 by omega, List.drop_append_of_le_length (by simp; omega)]
      simp
    · show (comes (ghosted { s with t1 := r, t2 := [] } x.key) key).t2 = []
      rw [hcm]
      rfl
    · have hk' : k ∈ ks (comes (ghosted { s with t1 := r, t2 := [] } x.key) key).b1 := hk
      rw [hcm] at hk'
      rw [htk]
      rcases hgh k hk' with h2 | h2
      · exact List.mem_append_left _ (h.out k h2)
      · subst h2
        refine List.mem_append_left _ ?_
        rw [hkt] at hxk
        exact List.mem_of_mem_drop hxk
end
end Go.Proofs.YtnbfokmodjgaaabDoor.A
