/- What is known: lists behind some keys. -/
import Derived.Test.YtcphhlfbjkeikabGreatEl
namespace Go.Proofs.YtcphhlfbjkeikabGreat
open Go.RowKit

section
variable {D : Nat → Prop} {w w' : World} {e b : Nat} {s : Stt}
theorem SaysE.back {b' : Nat} {r : Bool × List ByteArray × Stt} {ee : Ending} (h : SaysE e b' r D w ee w') : ∃ v, ee = .returned v ∧ AE e b' r.2.2 D w' ∧ Keeps D w w' := by
  obtain ⟨ad, cap, rfl, ⟨D1, h1, h2, _⟩, hk⟩ := h
  exact ⟨_, rfl, h2.wide (fun k _ hk => (h1 k hk).1), hk⟩
end
abbrev bA : ByteArray := ⟨#[97]⟩
abbrev bB : ByteArray := ⟨#[98]⟩
/-- the keys, and what the machine is behind k of them -/
def kq (k : Nat) : ByteArray := if k = 0 then bA else bB
def sq (k : Nat) : Stt := if k = 0 then ⟨[], [], [], 8⟩ else if k = 1 then ⟨[bA], [], [], 8⟩ else ⟨[bB], [bA], [], 8⟩
theorem sq_step (f : ByteArray → Nat) : (A.access f (sq 0) (kq 0)).2.2 = sq 1 ∧ (A.access f (sq 1) (kq 1)).2.2 = sq 2 := ⟨rfl, rfl⟩
theorem sq_next (f : ByteArray → Nat) (k : Nat) (hk : k < 2) : (A.access f (sq k) (kq k)).2.2 = sq (k + 1) := by
  have : k = 0 ∨ k = 1 := by omega
  rcases this with e | e <;> subst e
  · exact (sq_step f).1
  · exact (sq_step f).2
theorem sq_ok : ∀ k, k ≤ 2 → A.Ok (sq k) := by
  intro k
  induction k with
  | zero => intro _; exact A.start_ok (c := 8) (by omega) (by omega)
  | succ k ih =>
    intro hk
    have h := (A.acc_any (f := fun _ => 0) (ih (by omega)) (kq k)).1
    rw [sq_next _ k (by omega)] at h
    exact h
end Go.Proofs.YtcphhlfbjkeikabGreat
