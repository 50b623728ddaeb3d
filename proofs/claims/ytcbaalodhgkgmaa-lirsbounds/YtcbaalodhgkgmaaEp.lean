/- What is known: lists behind some keys. -/
import Derived.Test.YtcbaalodhgkgmaaEh
namespace Go.Proofs.Ytcbaalodhgkgmaa
open Go.RowKit

section
variable {D : Nat → Prop} {w w' : World} {e b : Nat} {s : Stt}
theorem Says.back {b' : Nat} {r : Bool × List ByteArray × Stt} {ee : Ending} (h : Says e b' r D w ee w') : ∃ v, ee = .returned v ∧ AE e b' r.2.2 D w' ∧ Keeps D w w' := by
  obtain ⟨ad, cap, rfl, ⟨D1, h1, h2, _⟩, hk⟩ := h
  exact ⟨_, rfl, h2.wide (fun k _ hk => (h1 k hk).1), hk⟩
end
abbrev bA : ByteArray := ⟨#[97]⟩
abbrev bB : ByteArray := ⟨#[98]⟩
abbrev bC : ByteArray := ⟨#[99]⟩
/-- the keys, and what the machine is behind k of them -/
def kq (k : Nat) : ByteArray := if k = 0 then bA else if k = 1 then bB else bC
def sq (k : Nat) : Stt := if k = 0 then ⟨[], [], [], 2⟩ else if k = 1 then ⟨[bA], [], [], 2⟩ else if k = 2 then ⟨[bA, bB], [bB], [], 2⟩ else ⟨[bA, bB, bC], [bC], [bB], 2⟩
theorem sq_step : (A.access (sq 0) (kq 0)).2.2 = sq 1 ∧ (A.access (sq 1) (kq 1)).2.2 = sq 2 ∧ (A.access (sq 2) (kq 2)).2.2 = sq 3 := ⟨rfl, rfl, rfl⟩
theorem sq_next (k : Nat) (hk : k < 3) : (A.access (sq k) (kq k)).2.2 = sq (k + 1) := by
  have : k = 0 ∨ k = 1 ∨ k = 2 := by omega
  rcases this with e | e | e <;> subst e
  · exact sq_step.1
  · exact sq_step.2.1
  · exact sq_step.2.2
theorem sq_ok : ∀ k, k ≤ 3 → A.Ok (sq k) := by
  intro k
  induction k with
  | zero => intro _; exact A.start_ok (c := 2) (by omega) (by omega)
  | succ k ih =>
    intro hk
    have h := (A.acc_any (ih (by omega)) (kq k)).1
    rw [sq_next k (by omega)] at h
    exact h
end Go.Proofs.Ytcbaalodhgkgmaa
