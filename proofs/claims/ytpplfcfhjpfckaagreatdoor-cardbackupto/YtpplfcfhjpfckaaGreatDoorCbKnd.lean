/-
  What is proved here: what package card's lacks and place answer (contracts over the translation); the table of kinds is asked as a premise.
-/
import Derived.Test.YtpplfcfhjpfckaaGreatDoorQK
import Derived.Test.YtpplfcfhjpfckaaGreatDoorQJ
namespace Go.Proofs.YtpplfcfhjpfckaaGreatDoor
open Go.RowKit Cal Txt Ln Cb

/-- The table of kinds. -/
def kC : Array Value := #[.string ⟨#[78, 65, 77, 69]⟩, .bool true, .bool false, .string ⟨#[84, 69, 88, 84]⟩, .bool false, .bool false, .string ⟨#[83, 84, 65, 82, 84]⟩, .bool true, .bool false, .string ⟨#[76, 69, 78, 71, 84, 72]⟩, .bool true, .bool false, .string ⟨#[82, 85, 76, 69]⟩, .bool false, .bool false, .string ⟨#[77, 79, 82, 69]⟩, .bool false, .bool true, .string ⟨#[78, 79, 84]⟩, .bool false, .bool true, .string ⟨#[77, 79, 86, 69]⟩, .bool false, .bool true, .string ⟨#[65, 76, 65, 82, 77]⟩, .bool false, .bool true]
def KnW (W : World) : Prop := W.rangeAt 0 0 kC.toList
theorem KnW.lt {W : World} (h : KnW W) : 0 < W.heap.size := ecell_in (h 0 _ rfl)
theorem KnW.below {W W' : World} (h : KnW W) (q : Below W.heap.size W W') : KnW W' := fun j v hv => (q.cell (p := ⟨0, 0 + j, none⟩) h.lt).trans (h j v hv)
theorem idxK (k : Nat) (h : k < 9) (W : World) : (Instr.index 78 (.agg kC) (.int .i64 k)).run Tryz.prog W = .ok (.agg #[.string (tb (ky k)), .bool (mu k), .bool (decide (5 ≤ k))]) W := by
  rcases nine h with rfl | rfl | rfl | rfl | rfl | rfl | rfl | rfl | rfl <;> kernel_rfl
/-- The table is loaded. -/
theorem kn_load {ops : Array Oper} {rest : List Oper} {op : Oper} {a : Act} {w : World} {Q : Exit → Act → World → Prop} (hgd : op.guard = none) (x : Operand) (ho : op.op = .load 78 x)
    (hx : a.eval x = .pointer (some ⟨0, 0, none⟩)) (hE : KnW w) (h : wpList Tryz.prog ops Q rest (a.put op.dst (.agg kC)) w) : wpList Tryz.prog ops Q (op :: rest) a w :=
  wpList_load_mid hgd 78 x ho 0 0 hx kC.toList _ hE Tryz.underlying78 rfl (by kernel_rfl) h
set_option maxRecDepth 100000 in
set_option maxHeartbeats 4000000 in
theorem lacks_any (b : Nat) (nx : Nat) (w : World) (hK : KnW w) (hn : w.cell? ⟨b, 17, none⟩ = some (.int .i64 nx)) :
    Calls Tryz.prog 22 #[.pointer (some ⟨b, 0, none⟩)] w fun e w' => e = .returned (.bool (decide (nx ≤ 3))) ∧ Below w.heap.size w w' := by
  have HN := Lib.hid hn
  have hb := ecell_in hn
  go_enter Tryz.func22, Tryz.ntmps22
  go_wp2_with (refine kn_load rfl _ rfl rfl hK ?_)
  clear hK hn
  go_loopw [6] (fun i wr => ∃ k : Nat, k ≤ 9 ∧ i = .int .i64 k ∧ (∀ j, j < k → nx ≤ j → mu j = false) ∧ Below w.heap.size w wr) (fun i _ => 9 - (intOf i).toNat)
  case atStart => exact ⟨0, Nat.zero_le _, rfl, fun j hj => by omega, Below.refl _ _⟩
  case round =>
    obtain ⟨k, hk, rfl, hm, hB⟩ := hrel
    have HM := Lib.hid hm
    clear hm
    by_cases hlt : k < 9
    · have ix := idxK k hlt
      have hB1 := hB.alloc hB.size (.cells #[.string (tb (ky k)), .bool (mu k), .bool (decide (5 ≤ k))] 77)
      have cn : (wr.alloc (.cells #[.string (tb (ky k)), .bool (mu k), .bool (decide (5 ≤ k))] 77)).cell? ⟨b, 17, none⟩ = some (.int .i64 nx) := (hB1.cell (p := ⟨b, 17, none⟩) hb).trans HN.out
      have HB1 := Lib.hid hB1
      have zb : b < wr.heap.size := Nat.lt_of_lt_of_le hb hB.size
      have cn0 : wr.cell? ⟨b, 17, none⟩ = some (.int .i64 nx) := (hB.cell (p := ⟨b, 17, none⟩) hb).trans HN.out
      clear hB hB1
      rcases hc : decide ((nx : Int) ≤ (k : Int)) with _ | _
      · have q : ¬ nx ≤ k := by have := of_decide_eq_false hc; omega
        go_wp2
        go_roundw
        case rel => exact ⟨k + 1, by omega, by go_num, fun j h1 h2 => HM.out j (by omega) h2, HB1.out⟩
        case measure => simp [intOf]; omega
      · have q : nx ≤ k := by have := of_decide_eq_true hc; omega
        rcases hmu : mu k with _ | _
        · rw [hmu] at ix cn HB1
          go_wp2
          go_roundw
          case rel => exact ⟨k + 1, by omega, by go_num, fun j h1 h2 => by
            rcases Nat.lt_or_ge j k with z | z
            · exact HM.out j z h2
            · rw [show j = k by omega]; exact hmu, HB1.out⟩
          case measure => simp [intOf]; omega
        · rw [hmu] at ix cn HB1
          have z3 : nx ≤ 3 := by
            rcases nine hlt with rfl | rfl | rfl | rfl | rfl | rfl | rfl | rfl | rfl <;> first | omega | exact absurd hmu (by decide)
          go_wp2
          go_ret
          exact ⟨ret_bool (by rw [eq_comm]; exact decide_eq_true z3), HB1.out⟩
    · have hk9 : k = 9 := by omega
      subst hk9
      have z3 : ¬ nx ≤ 3 := fun z => absurd (HM.out 3 (by omega) z) (by decide)
      go_wp2
      go_ret
      exact ⟨ret_bool (by rw [eq_comm]; exact decide_eq_false z3), hB⟩
/-- The place of a key, as it is told. -/
def pcV (o : Option Nat) : Value := .tuple #[.int .i64 ((o.getD 0 : Nat) : Int), .bool o.isSome]
set_option maxRecDepth 100000 in
set_option maxHeartbeats 4000000 in
theorem place_any (b : Nat) (nx : Nat) (key : ByteArray) (w : World) (hK : KnW w) (hn : w.cell? ⟨b, 17, none⟩ = some (.int .i64 nx)) :
    Calls Tryz.prog 39 #[.pointer (some ⟨b, 0, none⟩), .string key] w fun e w' => e = .returned (pcV (plc nx key.data.toList)) ∧ Below w.heap.size w w' := by
  have HN := Lib.hid hn
  have hb := ecell_in hn
  go_enter Tryz.func39, Tryz.ntmps39
  go_wp2_with (refine kn_load rfl _ rfl rfl hK ?_)
  clear hK hn
  go_loopw [9] (fun i wr => ∃ k : Nat, k ≤ 9 ∧ i = .int .i64 k ∧ plc nx key.data.toList = plcF (9 - k) k nx key.data.toList ∧ Below w.heap.size w wr) (fun i _ => 9 - (intOf i).toNat)
  case atStart => exact ⟨0, Nat.zero_le _, rfl, rfl, Below.refl _ _⟩
  case round =>
    obtain ⟨k, hk, rfl, hm, hB⟩ := hrel
    have HM := Lib.hid hm
    clear hm
    by_cases hlt : k < 9
    · have ix := idxK k hlt
      have hB1 := hB.alloc hB.size (.cells #[.string (tb (ky k)), .bool (mu k), .bool (decide (5 ≤ k))] 77)
      have cn : (wr.alloc (.cells #[.string (tb (ky k)), .bool (mu k), .bool (decide (5 ≤ k))] 77)).cell? ⟨b, 17, none⟩ = some (.int .i64 nx) := (hB1.cell (p := ⟨b, 17, none⟩) hb).trans HN.out
      have HB1 := Lib.hid hB1
      have zb : b < wr.heap.size := Nat.lt_of_lt_of_le hb hB.size
      have cn0 : wr.cell? ⟨b, 17, none⟩ = some (.int .i64 nx) := (hB.cell (p := ⟨b, 17, none⟩) hb).trans HN.out
      have PF : Hid (plcF (9 - k) k nx key.data.toList = if k < nx then plcF (9 - (k + 1)) (k + 1) nx key.data.toList else if ky k = key.data.toList then some k else if mu k = true then none else plcF (9 - (k + 1)) (k + 1) nx key.data.toList) := Lib.hid (by
        rw [show 9 - k = (9 - (k + 1)) + 1 by omega]
        rfl)
      clear hB hB1
      rcases hc : decide ((k : Int) < (nx : Int)) with _ | _
      · have q : ¬ k < nx := by have := of_decide_eq_false hc; omega
        rcases hky : ((tb (ky k)).toList == key.toList) with _ | _
        · have qk : ¬ ky k = key.data.toList := fun z => by
            rw [ByteArray.toList_eq, ByteArray.toList_eq] at hky
            simp [tb, z] at hky
          rcases hmu : mu k with _ | _
          · rw [hmu] at ix cn HB1
            go_wp2
            go_roundw
            case rel => exact ⟨k + 1, by omega, by go_num, by rw [HM.out, PF.out, if_neg q, if_neg qk, hmu]; rfl, HB1.out⟩
            case measure => simp [intOf]; omega
          · rw [hmu] at ix cn HB1
            go_wp2
            go_ret2
            exact ⟨by rw [HM.out, PF.out, if_neg q, if_neg qk, hmu]; rfl, HB1.out⟩
        · have qk : Hid (ky k = key.data.toList) := Lib.hid (by
            rw [ByteArray.toList_eq, ByteArray.toList_eq] at hky
            simpa [tb] using hky)
          go_wp2
          go_ret2
          exact ⟨by rw [HM.out, PF.out, if_neg q, if_pos qk.out]; rfl, HB1.out⟩
      · have q : k < nx := by have := of_decide_eq_true hc; omega
        go_wp2
        go_roundw
        case rel => exact ⟨k + 1, by omega, by go_num, by rw [HM.out, PF.out, if_pos q], HB1.out⟩
        case measure => simp [intOf]; omega
    · have hk9 : k = 9 := by omega
      subst hk9
      go_wp2
      go_ret2
      exact ⟨by rw [HM.out]; rfl, hB⟩
end Go.Proofs.YtpplfcfhjpfckaaGreatDoor
