/- An engine as the machine of chapter 14: Room, Len, Has, Load, Remove, Evict. -/
import Derived.Test.YtcphhlfbjkeikaaEi
namespace Go.Proofs.Ytcphhlfbjkeikaa
open Go.RowKit

/-- is a key in a row? -/
def inb (key : ByteArray) (zs : List ByteArray) : Bool := decide (0 < A.cnt key zs)
theorem inb_yes {key : ByteArray} {zs : List ByteArray} (h : key ∈ zs) : inb key zs = true := by
  unfold inb
  rw [decide_eq_true_eq]
  exact A.cnt_pos.2 h
theorem inb_no {key : ByteArray} {zs : List ByteArray} (h : key ∉ zs) : inb key zs = false := by
  unfold inb
  rw [decide_eq_false_iff_not, A.cnt_zero.2 h]
  omega
theorem inb_iff {key : ByteArray} {zs : List ByteArray} : inb key zs = true ↔ key ∈ zs := by
  unfold inb
  rw [decide_eq_true_eq]
  exact A.cnt_pos
/-- what Evict answers -/
def wentV (l : List ByteArray) : Value := match l with
  | [] => .tuple #[.string ⟨#[]⟩, .bool false]
  | g :: _ => .tuple #[.string g, .bool true]
section
variable {D : Nat → Prop} {w : World} {e : Nat} {s : Stt} {m : ByteArray → Option Ix.Sp} {z : Dk}
theorem IX_len {te tl : TypeId} {p b : Nat} {m : ByteArray → Option Ix.Sp} (H : Ix.IX te tl D w p m b) : ∃ n : Nat, w.cell? ⟨p, 3, none⟩ = some (.int .i64 (n : Nat)) ∧ n ≤ b ∧ ∀ l : List ByteArray, l.Nodup → (∀ k, k ∈ l ↔ m k ≠ none) → l.length = n := by
  obtain ⟨seed, sl, used, count, ad, hs0, H, o⟩ := H
  refine ⟨count, H.top.2.2.2.1, o.few, fun l h1 h2 => ?_⟩
  obtain ⟨l', h3, h4, h5⟩ := Ix.Ok.keys o
  have a := nodup_len h1 (m := (sl.filter (fun s => s.st == 2)).map (·.key)) (fun k hk => by
    cases hm : m k with
    | none => exact absurd hm ((h2 k).1 hk)
    | some v =>
      obtain ⟨i, t, hi, ht, hk', -⟩ := (o.map k v).1 hm
      exact List.mem_map.2 ⟨t, List.mem_filter.2 ⟨List.mem_of_getElem? hi, by simp [ht]⟩, hk'⟩)
  have b := nodup_len h3 (m := l) (fun k hk => (h2 k).2 (h5 k hk))
  rw [List.length_map, ← List.countP_eq_length_filter, o.count_] at a
  omega
theorem xlen_any {p n : Nat} (h : w.cell? ⟨p, 3, none⟩ = some (.int .i64 (n : Nat))) : Calls Try.prog 25 #[.pointer (some ⟨p, 0, none⟩)] w fun ee w' => ee = .returned (.int .i64 (n : Nat)) ∧ w' = w := by
  go_enter Try.func25, Try.ntmps25
  go_wp2
  go_ret
  exact ⟨rfl, rfl⟩
theorem keys_nodup (ho : Single s) : (A.keys s).Nodup := A.Once.nodup (fun k => by
  have := ho k
  unfold A.keys
  rw [A.cnt_append, A.cnt_append]
  omega)
set_option maxHeartbeats 1000000 in
theorem lenM (H : MA e z s m D w) (ho : Single s) : Calls Try.prog 9 #[.pointer (some ⟨e, 0, none⟩)] w fun ee w' => ee = .returned (.int .i64 ((A.keys s).length : Nat)) ∧ w' = w := by
  have HE : Hid (MA e z s m D w) := H
  have hx : ∃ x : Nat, w.cell? ⟨e, 4, none⟩ = some (.pointer (some ⟨x, 0, none⟩)) ∧ w.cell? ⟨x, 3, none⟩ = some (.int .i64 ((A.keys s).length : Nat)) := by
    have hout : ∀ k, m k = none ↔ ∀ i, i < 3 → k ∉ qs s i := fun k => H.out
    obtain ⟨L, R, x, h, r⟩ := H
    obtain ⟨n', h1, h2, h3⟩ := IX_len h.ix
    have := h3 (A.keys s) (keys_nodup ho) (fun k => by
      rw [ne_eq, hout, keys_in]
      constructor
      · rintro ⟨i, hi, hk⟩ h4
        exact h4 i hi hk
      · intro h4
        rcases Classical.em (∃ i, i < 3 ∧ k ∈ qs s i) with h5 | h5
        · exact h5
        · exact absurd (fun i hi hk => h5 ⟨i, hi, hk⟩) h4)
    rw [this]
    exact ⟨x, h.cells.2.2.1, h1⟩
  obtain ⟨x, c4, c3⟩ := hx
  have hxl := xlen_any c3
  have heo := H.cells.2.2.2.1
  clear H ho c3
  generalize (A.keys s).length = n at *
  go_enter Try.func9, Try.ntmps9
  go_wp2_with (first
    | (go_at_call 16; refine (blank_any HE.out).mono ?_; rintro ee w1 ⟨rfl, rfl⟩)
    | (go_at_call 25; refine Calls.mono hxl ?_; clear hxl; rintro ee w1 ⟨rfl, rfl⟩))
  go_ret
  exact ⟨rfl, rfl⟩
theorem MA.found_any (H : MA e z s m D w) (key : ByteArray) : (m key).isSome = inb key (A.keys s) := by
  by_cases hin : key ∈ A.keys s
  · obtain ⟨i, h, -, hm⟩ := H.found hin
    rw [inb_yes hin, hm]; rfl
  · rw [inb_no hin, H.lost hin]; rfl
set_option maxHeartbeats 1000000 in
theorem hasM (H : MA e z s m D w) (key : ByteArray) (hk : key.size ≤ 1000) :
    Calls Try.prog 10 #[.pointer (some ⟨e, 0, none⟩), .string key] w fun ee w' => ee = .returned (.bool (inb key (A.keys s))) ∧ Below w.heap.size w w' := by
  have HE : Hid (MA e z s m D w) := H
  obtain ⟨x, c4, hget⟩ := H.get (by omega) key hk
  rw [H.found_any key] at hget
  have heo := H.cells.2.2.2.1
  clear H
  generalize (m key).getD (0, 0) = v at *
  generalize inb key (A.keys s) = t at *
  go_enter Try.func10, Try.ntmps10
  go_wp2_with (first
    | (go_at_call 16; refine (blank_any HE.out).mono ?_; rintro ee w1 ⟨rfl, rfl⟩)
    | (go_at_call 18; refine Calls.mono hget ?_; clear hget; rintro ee w3 ⟨rfl, hb3⟩))
  go_ret
  first
    | exact ⟨rfl, hb3⟩
    | exact ⟨rfl, hb3.alloc hb3.size _⟩
end
end Go.Proofs.Ytcphhlfbjkeikaa
