/-
  What is proved here: what chimesame's Rings answers at two rows that read the same (a contract over the translation).
-/
import Derived.Test.YtpnbnnndpbjgmaaDoorQuFnd
import Derived.Test.YtpnbnnndpbjgmaaDoorQuPut
namespace Go.Proofs.YtpnbnnndpbjgmaaDoor.Qu
open Go.RowKit

set_option maxRecDepth 100000 in
set_option maxHeartbeats 2000000 in
theorem sameRings (l : List Rq) (va vb : Value) (w : World) (ha : Rd w va l) (hb : Rd w vb l) (hl : l.length ≤ 2000000) :
    Calls Tryd.prog 13 #[va, vb] w fun e w' => e = .returned (.bool true) ∧ Below w.heap.size w w' := by
  obtain ⟨aa, ca, rfl, xa⟩ := id ha
  obtain ⟨ab, cb, rfl, xb⟩ := id hb
  have HA : Hid (l = [] ∨ ∃ b off, aa = some ⟨b, off, none⟩ ∧ ∀ i, i < l.length → At5 w b (off + i * 5) (l.getD i zq)) := Lib.hid (by
    rcases xa with h | ⟨b, off, rfl, h⟩
    · exact Or.inl h
    · exact Or.inr ⟨b, off, rfl, fun i hi => Rd.at (cap := ca) ⟨_, ca, rfl, Or.inr ⟨b, off, rfl, h⟩⟩ hi⟩)
  have HBb : Hid (l = [] ∨ ∃ b off, ab = some ⟨b, off, none⟩ ∧ ∀ i, i < l.length → At5 w b (off + i * 5) (l.getD i zq)) := Lib.hid (by
    rcases xb with h | ⟨b, off, rfl, h⟩
    · exact Or.inl h
    · exact Or.inr ⟨b, off, rfl, fun i hi => Rd.at (cap := cb) ⟨_, cb, rfl, Or.inr ⟨b, off, rfl, h⟩⟩ hi⟩)
  clear xa xb ha hb
  go_enter Tryd.func13, Tryd.ntmps13
  go_wp2
  go_loopw [5] (fun i wr => ∃ k : Nat, k ≤ l.length ∧ i = .int .i64 k ∧ Below w.heap.size w wr) (fun i _ => l.length - (intOf i).toNat)
  case atStart => exact ⟨0, Nat.zero_le _, rfl, Below.refl _ _⟩
  case round =>
    obtain ⟨k, hk, rfl, hB⟩ := hrel
    by_cases hlt : k < l.length
    · rcases HA.out with hc | ⟨b, off, rfl, hc⟩
      · rw [hc] at hlt; simp at hlt
      rcases HBb.out with hd | ⟨b2, off2, rfl, hd⟩
      · rw [hd] at hlt; simp at hlt
      obtain ⟨p0, p1, p2, p3, p4⟩ := (hc k hlt).on hB
      obtain ⟨q0, q1, q2, q3, q4⟩ := (hd k hlt).on hB
      generalize l.getD k zq = Y at p0 p1 p2 p3 p4 q0 q1 q2 q3 q4
      obtain ⟨x, nm, y, z, u⟩ := Y
      dsimp only at p0 p1 p2 p3 p4 q0 q1 q2 q3 q4
      clear hc hd
      go_wp2_with fail
      go_quiet (fail)
      go_wp2
      go_roundw
      case rel => exact ⟨k + 1, by omega, by go_num, below_drewN hB _⟩
      case measure => simp [intOf]; omega
    · go_wp2
      go_ret
      exact ⟨rfl, hB⟩
end Go.Proofs.YtpnbnnndpbjgmaaDoor.Qu
