/-
  What is proved here: what chimesame's Ints answers of two lists that are the same (a contract over the translation). (RSame has the same: never import both.)
-/
import Derived.Test.YtnnpnalfkcngmacGreatDoorInts
import Derived.BigQuiet
namespace Go.Proofs.YtnnpnalfkcngmacGreatDoor
open Go.RowKit

set_option maxRecDepth 100000 in
set_option maxHeartbeats 2000000 in
theorem sameInts (l : List Int) (va vb : Value) (w : World) (ha : Ints w va l) (hb : Ints w vb l) (hl : l.length ≤ 2000000) :
    Calls Tryz.prog 9 #[va, vb] w fun e w' => e = .returned (.bool true) ∧ Below w.heap.size w w' := by
  have HA := Lib.hid ha
  have HBb := Lib.hid hb
  obtain ⟨aa, ca, rfl, xa⟩ := ha
  obtain ⟨ab, cb, rfl, xb⟩ := hb
  clear xa xb
  go_enter Tryz.func9, Tryz.ntmps9
  go_wp2
  go_loopw [5] (fun i wr => ∃ k : Nat, k ≤ l.length ∧ i = .int .i64 k ∧ Below w.heap.size w wr) (fun i _ => l.length - (intOf i).toNat)
  case atStart => exact ⟨0, Nat.zero_le _, rfl, Below.refl _ _⟩
  case round =>
    obtain ⟨k, hk, rfl, hB⟩ := hrel
    by_cases hlt : k < l.length
    · obtain ⟨a', c', e', hc⟩ := HA.out.on hB
      obtain ⟨rfl, rfl⟩ : aa = a' ∧ ca = c' := by simpa using e'
      obtain ⟨a2, c2, e2, hd⟩ := HBb.out.on hB
      obtain ⟨rfl, rfl⟩ : ab = a2 ∧ cb = c2 := by simpa using e2
      rcases hc with hc | ⟨b, off, rfl, hc⟩
      · rw [hc] at hlt; simp at hlt
      rcases hd with hd | ⟨b2, off2, rfl, hd⟩
      · rw [hd] at hlt; simp at hlt
      have q1 := hc k hlt
      have q2 := hd k hlt
      obtain ⟨x, hx⟩ : ∃ x, x = l.getD k 0 := ⟨_, rfl⟩
      rw [← hx] at q1 q2
      clear hx hc hd e' e2
      go_wp2_with fail
      go_quiet (fail)
      go_wp2
      go_roundw
      case rel => exact ⟨k + 1, by omega, by go_num, below_drewN hB _⟩
      case measure => simp [intOf]; omega
    · go_wp2
      go_ret
      exact ⟨rfl, hB⟩
end Go.Proofs.YtnnpnalfkcngmacGreatDoor
