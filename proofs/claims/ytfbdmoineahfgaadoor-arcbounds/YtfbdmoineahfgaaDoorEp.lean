/- What is known: lists behind some keys. -/
import Derived.Test.YtfbdmoineahfgaaDoorEk
import Derived.Test.YtfbdmoineahfgaaDoorEo
import Derived.Test.YtfbdmoineahfgaaDoorEn1
namespace Go.Proofs.YtfbdmoineahfgaaDoor
open Go.RowKit

section
variable {D : Nat → Prop} {w w' : World} {e b : Nat} {s : Stt}
/-- Access of a key that is no ghost -/
theorem acc_free (H : AE e b s D w) (hok : A.Ok s) (hD : ∀ k, w.heap.size ≤ k → D k) (hb : b ≤ 600000) (key : ByteArray) (hk : key.size ≤ 1000) (hng : key ∉ A.ghosts s) :
    Calls Tryd.prog 28 #[.pointer (some ⟨e, 0, none⟩), .string key] w (Says e (b + 2) (A.access s key) D w) := by
  obtain ⟨x, c6, hx⟩ := EN.get H (by omega) key hk
  have ho := Single.of hok
  rcases hx with ⟨hn, hf⟩ | ⟨i, h, hi, hin, hot, hf⟩
  · have e1 : A.access s key = (false, A.fresh s key) := by
      have h0 := hn 0 (by omega); have h1 := hn 1 (by omega)
      unfold A.access
      rw [if_neg (by unfold A.keys; rw [List.mem_append]; exact fun h => h.elim h0 h1), if_neg hng]
    rw [e1]
    exact acc_new H hok hD hb key hk c6 hf hn
  · have hres : i < 2 := by
      rcases Nat.lt_or_ge i 2 with h2 | h2
      · exact h2
      · exfalso
        apply hng
        unfold A.ghosts
        rw [List.mem_append]
        have : i = 2 ∨ i = 3 := by omega
        rcases this with e | e <;> subst e
        · exact .inl hin
        · exact .inr hin
    have hk1 : key ∈ A.keys s := by
      unfold A.keys
      rw [List.mem_append]
      have : i = 0 ∨ i = 1 := by omega
      rcases this with e | e <;> subst e
      · exact .inl hin
      · exact .inr hin
    have e1 : A.access s key = (true, [], A.touch s key) := by
      unfold A.access
      rw [if_pos hk1]
    rw [e1]
    refine (acc_in H ho hD (by omega) key hk c6 hf hres hk1).mono ?_
    rintro ee w' ⟨rfl, h2, hk2⟩
    exact ⟨none, 0, rfl, (AE.more h2 (by omega)).bare, hk2⟩
theorem Says.back {b' : Nat} {r : Bool × List ByteArray × Stt} {ee : Ending} (h : Says e b' r D w ee w') : ∃ v, ee = .returned v ∧ AE e b' r.2.2 D w' ∧ Keeps D w w' := by
  obtain ⟨ad, cap, rfl, ⟨D1, h1, h2, _⟩, hk⟩ := h
  exact ⟨_, rfl, h2.wide (fun k _ hk => (h1 k hk).1), hk⟩
end
abbrev bA : ByteArray := ⟨#[97]⟩
abbrev bB : ByteArray := ⟨#[98]⟩
abbrev bC : ByteArray := ⟨#[99]⟩
/-- the keys, and what the machine is behind k of them -/
def kq (k : Nat) : ByteArray := if k = 0 then bA else if k = 1 then bA else if k = 2 then bB else bC
def sq (k : Nat) : Stt := if k = 0 then ⟨[], [], [], [], 0, 2⟩ else if k = 1 then ⟨[bA], [], [], [], 0, 2⟩ else if k = 2 then ⟨[], [bA], [], [], 0, 2⟩ else if k = 3 then ⟨[bB], [bA], [], [], 0, 2⟩ else ⟨[bC], [bA], [bB], [], 0, 2⟩
theorem sq_step : (A.access (sq 0) (kq 0)).2.2 = sq 1 ∧ (A.access (sq 1) (kq 1)).2.2 = sq 2 ∧ (A.access (sq 2) (kq 2)).2.2 = sq 3 ∧ (A.access (sq 3) (kq 3)).2.2 = sq 4 := ⟨rfl, rfl, rfl, rfl⟩
theorem sq_next (k : Nat) (hk : k < 4) : (A.access (sq k) (kq k)).2.2 = sq (k + 1) := by
  have : k = 0 ∨ k = 1 ∨ k = 2 ∨ k = 3 := by omega
  rcases this with e | e | e | e <;> subst e
  · exact sq_step.1
  · exact sq_step.2.1
  · exact sq_step.2.2.1
  · exact sq_step.2.2.2
theorem sq_ok : ∀ k, k ≤ 4 → A.Ok (sq k) := by
  intro k
  induction k with
  | zero => intro _; exact A.start_ok (c := 2) (by omega) (by omega)
  | succ k ih =>
    intro hk
    have h := (A.acc_any (ih (by omega)) (kq k)).1
    rw [sq_next k (by omega)] at h
    exact h
theorem sq_free (k : Nat) (hk : k < 4) : kq k ∉ A.ghosts (sq k) := by
  have : k = 0 ∨ k = 1 ∨ k = 2 ∨ k = 3 := by omega
  rcases this with e | e | e | e <;> subst e <;> simp [A.ghosts, sq]
end Go.Proofs.YtfbdmoineahfgaaDoor
