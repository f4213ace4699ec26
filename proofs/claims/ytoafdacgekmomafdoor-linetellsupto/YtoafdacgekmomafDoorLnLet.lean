/-
  What is proved here: what package line's letterOf and firstByte answer, for every byte and text (contracts over the translation); the marked bytes are asked as a premise.
-/
import Derived.Test.YtoafdacgekmomafDoorTxtOwn
import Derived.Test.YtoafdacgekmomafDoorLnEscP
import Derived.Test.YtoafdacgekmomafDoorLnFold
import Derived.BigQuiet
namespace Go.Proofs.YtoafdacgekmomafDoor
open Go.RowKit Cal Ln

/-- The marked bytes, as their text lays them. -/
def Mrk (w : World) : Prop := w.cell? ⟨0, 0, none⟩ = some (.int .u8 92) ∧ w.cell? ⟨0, 1, none⟩ = some (.int .u8 92) ∧ w.cell? ⟨0, 2, none⟩ = some (.int .u8 59) ∧ w.cell? ⟨0, 3, none⟩ = some (.int .u8 59) ∧ w.cell? ⟨0, 4, none⟩ = some (.int .u8 44) ∧ w.cell? ⟨0, 5, none⟩ = some (.int .u8 44) ∧ w.cell? ⟨0, 6, none⟩ = some (.int .u8 10) ∧ w.cell? ⟨0, 7, none⟩ = some (.int .u8 110)
theorem Mrk.pos {w : World} (h : Mrk w) : 0 < w.heap.size := by
  have k := h.1
  rcases Nat.lt_or_ge 0 w.heap.size with q | q
  · exact q
  · simp [World.cell?, Array.getElem?_eq_none q] at k
theorem Mrk.below {w w' : World} (h : Mrk w) (b : Below w.heap.size w w') : Mrk w' := by
  have hp := h.pos
  obtain ⟨a0, a1, a2, a3, a4, a5, a6, a7⟩ := h
  exact ⟨(b.cell (p := ⟨0, 0, none⟩) hp).trans a0, (b.cell (p := ⟨0, 1, none⟩) hp).trans a1, (b.cell (p := ⟨0, 2, none⟩) hp).trans a2, (b.cell (p := ⟨0, 3, none⟩) hp).trans a3, (b.cell (p := ⟨0, 4, none⟩) hp).trans a4, (b.cell (p := ⟨0, 5, none⟩) hp).trans a5, (b.cell (p := ⟨0, 6, none⟩) hp).trans a6, (b.cell (p := ⟨0, 7, none⟩) hp).trans a7⟩
theorem mark_0 (W : World) : (Instr.index 57 (.agg #[.int .u8 92, .int .u8 92, .int .u8 59, .int .u8 59, .int .u8 44, .int .u8 44, .int .u8 10, .int .u8 110]) (.int .i64 0)).run Tryd.prog W = .ok (.agg #[.int .u8 92, .int .u8 92]) W := by kernel_rfl
theorem mark_1 (W : World) : (Instr.index 57 (.agg #[.int .u8 92, .int .u8 92, .int .u8 59, .int .u8 59, .int .u8 44, .int .u8 44, .int .u8 10, .int .u8 110]) (.int .i64 1)).run Tryd.prog W = .ok (.agg #[.int .u8 59, .int .u8 59]) W := by kernel_rfl
theorem mark_2 (W : World) : (Instr.index 57 (.agg #[.int .u8 92, .int .u8 92, .int .u8 59, .int .u8 59, .int .u8 44, .int .u8 44, .int .u8 10, .int .u8 110]) (.int .i64 2)).run Tryd.prog W = .ok (.agg #[.int .u8 44, .int .u8 44]) W := by kernel_rfl
theorem mark_3 (W : World) : (Instr.index 57 (.agg #[.int .u8 92, .int .u8 92, .int .u8 59, .int .u8 59, .int .u8 44, .int .u8 44, .int .u8 10, .int .u8 110]) (.int .i64 3)).run Tryd.prog W = .ok (.agg #[.int .u8 10, .int .u8 110]) W := by kernel_rfl
theorem ln_drewN {B : Nat} {w wr : World} (h : Below B w wr) (q : Nat) : Below B w (wr.drewN q) := ⟨h.1, h.2, h.3, h.4, h.5⟩
/-- What letterOf answers. -/
def lo (b : UInt8) : Int := (((lof b).getD 0).toNat : Int)
def lb (b : UInt8) : Bool := (lof b).isSome
theorem u8_ne {b c : UInt8} (h : ¬ b = c) : ¬ (c.toNat : Int) = (b.toNat : Int) := by
  intro k
  exact h (UInt8.toNat_inj.1 (by omega))
def lofK (b : UInt8) : Nat → Prop
  | 0 => True
  | 1 => ¬ b = 92
  | 2 => ¬ b = 92 ∧ ¬ b = 59
  | 3 => ¬ b = 92 ∧ ¬ b = 59 ∧ ¬ b = 44
  | _ => lof b = none
theorem lofK_4 {b : UInt8} (h : lofK b 3) (h4 : ¬ b = 10) : lofK b 4 := by
  obtain ⟨h1, h2, h3⟩ := h
  show lof b = none
  unfold lof
  rw [if_neg h1, if_neg h2, if_neg h3, if_neg h4]
set_option maxRecDepth 100000 in
set_option maxHeartbeats 2000000 in
theorem letterOf_any (b : UInt8) (w : World) (hM : Mrk w) :
    Calls Tryd.prog 25 #[.int .u8 (b.toNat : Int)] w fun e w' => e = .returned (.tuple #[.int .u8 (lo b), .bool (lb b)]) ∧ Below w.heap.size w w' := by
  obtain ⟨a0, a1, a2, a3, a4, a5, a6, a7⟩ := hM
  go_enter Tryd.func25, Tryd.ntmps25
  go_wp2
  go_loopw [7] (fun i wr => ∃ k : Nat, i = .int .i64 k ∧ Below w.heap.size w wr ∧ lofK b k ∧ (k = 0 ∨ k = 1 ∨ k = 2 ∨ k = 3 ∨ k = 4)) (fun i _ => 4 - (intOf i).toNat)
  case atStart => exact ⟨0, rfl, Below.refl _ _, trivial, Or.inl rfl⟩
  case round =>
    clear a0 a1 a2 a3 a4 a5 a6 a7
    obtain ⟨k, rfl, hb, hl, hk⟩ := hrel
    have HL := Lib.hid hl
    clear hl
    rcases hk with rfl | hk
    · have ix := mark_0
      by_cases e0 : b = 92
      · subst e0
        go_wp2
        go_ret2
        exact ⟨rfl, (hb.alloc hb.size _)⟩
      · have p0 : ¬ (92 : Int) = (b.toNat : Int) := u8_ne e0
        have NX := Lib.hid (show lofK b 1 from (show ¬ b = 92 from e0))
        clear e0
        go_wp2
        go_roundw
        case rel => exact ⟨1, by go_num, (hb.alloc hb.size _), NX.out, by omega⟩
        case measure => simp [intOf]
    rcases hk with rfl | hk
    · have ix := mark_1
      by_cases e0 : b = 59
      · subst e0
        go_wp2
        go_ret2
        exact ⟨rfl, (hb.alloc hb.size _)⟩
      · have p0 : ¬ (59 : Int) = (b.toNat : Int) := u8_ne e0
        have NX := Lib.hid (show lofK b 2 from ⟨HL.out, e0⟩)
        clear e0
        go_wp2
        go_roundw
        case rel => exact ⟨2, by go_num, (hb.alloc hb.size _), NX.out, by omega⟩
        case measure => simp [intOf]
    rcases hk with rfl | hk
    · have ix := mark_2
      by_cases e0 : b = 44
      · subst e0
        go_wp2
        go_ret2
        exact ⟨rfl, (hb.alloc hb.size _)⟩
      · have p0 : ¬ (44 : Int) = (b.toNat : Int) := u8_ne e0
        have NX := Lib.hid (show lofK b 3 from ⟨HL.out.1, HL.out.2, e0⟩)
        clear e0
        go_wp2
        go_roundw
        case rel => exact ⟨3, by go_num, (hb.alloc hb.size _), NX.out, by omega⟩
        case measure => simp [intOf]
    rcases hk with rfl | hk
    · have ix := mark_3
      by_cases e0 : b = 10
      · subst e0
        go_wp2
        go_ret2
        exact ⟨rfl, (hb.alloc hb.size _)⟩
      · have p0 : ¬ (10 : Int) = (b.toNat : Int) := u8_ne e0
        have NX := Lib.hid (show lofK b 4 from lofK_4 HL.out e0)
        clear e0
        go_wp2
        go_roundw
        case rel => exact ⟨4, by go_num, (hb.alloc hb.size _), NX.out, by omega⟩
        case measure => simp [intOf]
    obtain rfl : k = 4 := hk
    have hn : lof b = none := HL.out
    have e1 : lo b = 0 := by unfold lo; rw [hn]; rfl
    have e2 : lb b = false := by unfold lb; rw [hn]; rfl
    have E1 := Lib.hid e1
    have E2 := Lib.hid e2
    clear hn e1 e2
    go_wp2
    go_ret2
    exact ⟨by rw [E1.out, E2.out]; rfl, hb⟩
theorem lo_no {b : UInt8} (h : lof b = none) : lo b = 0 := by unfold lo; rw [h]; rfl
theorem lb_no {b : UInt8} (h : lof b = none) : lb b = false := by unfold lb; rw [h]; rfl
theorem lo_yes {b c : UInt8} (h : lof b = some c) : lo b = (c.toNat : Int) := by unfold lo; rw [h]; rfl
theorem lb_yes {b c : UInt8} (h : lof b = some c) : lb b = true := by unfold lb; rw [h]; rfl
def bofK (b : UInt8) : Nat → Prop
  | 0 => True
  | 1 => ¬ b = 92
  | 2 => ¬ b = 92 ∧ ¬ b = 59
  | 3 => ¬ b = 92 ∧ ¬ b = 59 ∧ ¬ b = 44
  | _ => bof b = none
theorem bofK_4 {b : UInt8} (h : bofK b 3) (h4 : ¬ b = 110) : bofK b 4 := by
  obtain ⟨h1, h2, h3⟩ := h
  show bof b = none
  unfold bof
  rw [if_neg h1, if_neg h2, if_neg h3, if_neg h4]
theorem two_of (s : ByteArray) (h : 2 ≤ s.size) : ∃ r, s.data.toList = s[0] :: s[1] :: r := by
  refine ⟨s.data.toList.drop 2, ?_⟩
  have h2 : 1 < s.data.toList.length := by show 1 < s.size; omega
  have e := List.drop_eq_getElem_cons (i := 1) (l := s.data.toList) h2
  have e0 := List.drop_eq_getElem_cons (i := 0) (l := s.data.toList) (by omega)
  rw [List.drop_zero] at e0
  rw [e0, e]; rfl
theorem one_of (s : ByteArray) (h : 0 < s.size) : ∃ r, s.data.toList = s[0] :: r := by
  refine ⟨s.data.toList.drop 1, ?_⟩
  have e0 := List.drop_eq_getElem_cons (i := 0) (l := s.data.toList) h
  rw [List.drop_zero] at e0
  rw [e0]; rfl
theorem last_of (s : ByteArray) (h : s.size = 1) : s.data.toList = [s[0]] := by
  obtain ⟨r, hr⟩ := one_of s (by omega)
  have : s.data.toList.length = 1 := h
  rw [hr] at this ⊢
  simp at this
  rw [this]
/-- What firstByte answers. -/
def FbA (s : ByteArray) (w : World) (e : Ending) (w' : World) : Prop := e = .returned (.tuple #[.int .u8 ((fb s.data.toList).1.toNat : Int), .int .i64 ((fb s.data.toList).2 : Int)]) ∧ Below w.heap.size w w'
theorem FbA.mk {s : ByteArray} {w w' : World} {e : Ending} {b : UInt8} {n : Nat} (h : fb s.data.toList = (b, n)) (he : e = .returned (.tuple #[.int .u8 (b.toNat : Int), .int .i64 (n : Int)])) (hb : Below w.heap.size w w') : FbA s w e w' := by
  unfold FbA; rw [h]; exact ⟨he, hb⟩
set_option maxRecDepth 100000 in
set_option maxHeartbeats 2000000 in
theorem firstByte_any (s : ByteArray) (w : World) (hM : Mrk w) (hs : 0 < s.size) :
    Calls Tryd.prog 17 #[.string s] w (FbA s w) := by
  obtain ⟨r0, hr0⟩ := one_of s hs
  have HR0 := Lib.hid hr0
  clear hr0
  obtain ⟨b, hb0⟩ : ∃ b, b = s[0] := ⟨_, rfl⟩
  have hb1 : (s[0].toNat : Int) = (b.toNat : Int) := by rw [hb0]
  have HB0 := Lib.hid hb0
  clear hb0
  cases hl : lof b with
  | none =>
    have e1 := lb_no hl
    have F := Lib.hid (show fb s.data.toList = (b, 1) by rw [HR0.out, ← HB0.out]; exact fb_plain hl)
    go_enter Tryd.func17, Tryd.ntmps17
    go_wp2_with (go_at_call 25; refine (letterOf_any b w hM).mono ?_; rintro e w1 ⟨rfl, hb⟩)
    go_ret2
    exact FbA.mk F.out rfl hb
  | some c =>
    have e1 := lb_yes hl
    by_cases h92 : b = 92
    · subst h92
      by_cases h1 : s.size = 1
      · have F := Lib.hid (show fb s.data.toList = (0, 0) by rw [last_of s h1, ← HB0.out]; exact fb_last)
        go_enter Tryd.func17, Tryd.ntmps17
        go_wp2_with (go_at_call 25; refine (letterOf_any 92 w hM).mono ?_; rintro e w1 ⟨rfl, hb⟩)
        go_ret2
        exact FbA.mk F.out rfl hb
      · have h2 : 2 ≤ s.size := by omega
        obtain ⟨r, hr⟩ := two_of s h2
        obtain ⟨d, hd⟩ : ∃ d, d = s[1] := ⟨_, rfl⟩
        have hd1 : (s[1].toNat : Int) = (d.toNat : Int) := by rw [hd]
        have HR := Lib.hid (show s.data.toList = 92 :: d :: r by rw [hr, hd, ← HB0.out])
        clear hd hr
        have h1n : ¬ (s.size : Int) = 1 := by omega
        go_enter Tryd.func17, Tryd.ntmps17
        go_wp2_with (go_at_call 25; refine (letterOf_any 92 w hM).mono ?_; rintro e w1 ⟨rfl, hb⟩; obtain ⟨a0, a1, a2, a3, a4, a5, a6, a7⟩ := hM.below hb)
        go_loopw [27] (fun i wr => ∃ k : Nat, i = .int .i64 k ∧ Below w.heap.size w wr ∧ bofK d k ∧ (k = 0 ∨ k = 1 ∨ k = 2 ∨ k = 3 ∨ k = 4)) (fun i _ => 4 - (intOf i).toNat)
        case atStart => exact ⟨0, rfl, hb, trivial, Or.inl rfl⟩
        case round =>
          clear a0 a1 a2 a3 a4 a5 a6 a7 hb hM
          obtain ⟨k, rfl, hb, hl, hk⟩ := hrel
          have HL := Lib.hid hl
          clear hl
          rcases hk with rfl | hk
          · have ix := mark_0
            by_cases e0 : d = 92
            · subst e0
              have F := Lib.hid (show fb s.data.toList = (92, 2) by rw [HR.out]; exact fb_two rfl)
              go_wp2
              go_quiet (fail)
              go_wp2
              go_ret2
              exact FbA.mk F.out rfl (ln_drewN (hb.alloc hb.size _) _)
            · have p0 : ¬ (92 : Int) = (d.toNat : Int) := u8_ne e0
              have NX := Lib.hid (show bofK d 1 from (show ¬ d = 92 from e0))
              clear e0
              go_wp2
              go_quiet (fail)
              go_wp2
              go_roundw
              case rel => exact ⟨1, by go_num, (ln_drewN (hb.alloc hb.size _) _), NX.out, by omega⟩
              case measure => simp [intOf]
          rcases hk with rfl | hk
          · have ix := mark_1
            by_cases e0 : d = 59
            · subst e0
              have F := Lib.hid (show fb s.data.toList = (59, 2) by rw [HR.out]; exact fb_two rfl)
              go_wp2
              go_quiet (fail)
              go_wp2
              go_ret2
              exact FbA.mk F.out rfl (ln_drewN (hb.alloc hb.size _) _)
            · have p0 : ¬ (59 : Int) = (d.toNat : Int) := u8_ne e0
              have NX := Lib.hid (show bofK d 2 from ⟨HL.out, e0⟩)
              clear e0
              go_wp2
              go_quiet (fail)
              go_wp2
              go_roundw
              case rel => exact ⟨2, by go_num, (ln_drewN (hb.alloc hb.size _) _), NX.out, by omega⟩
              case measure => simp [intOf]
          rcases hk with rfl | hk
          · have ix := mark_2
            by_cases e0 : d = 44
            · subst e0
              have F := Lib.hid (show fb s.data.toList = (44, 2) by rw [HR.out]; exact fb_two rfl)
              go_wp2
              go_quiet (fail)
              go_wp2
              go_ret2
              exact FbA.mk F.out rfl (ln_drewN (hb.alloc hb.size _) _)
            · have p0 : ¬ (44 : Int) = (d.toNat : Int) := u8_ne e0
              have NX := Lib.hid (show bofK d 3 from ⟨HL.out.1, HL.out.2, e0⟩)
              clear e0
              go_wp2
              go_quiet (fail)
              go_wp2
              go_roundw
              case rel => exact ⟨3, by go_num, (ln_drewN (hb.alloc hb.size _) _), NX.out, by omega⟩
              case measure => simp [intOf]
          rcases hk with rfl | hk
          · have ix := mark_3
            by_cases e0 : d = 110
            · subst e0
              have F := Lib.hid (show fb s.data.toList = (10, 2) by rw [HR.out]; exact fb_two rfl)
              go_wp2
              go_quiet (fail)
              go_wp2
              go_ret2
              exact FbA.mk F.out rfl (ln_drewN (hb.alloc hb.size _) _)
            · have p0 : ¬ (110 : Int) = (d.toNat : Int) := u8_ne e0
              have NX := Lib.hid (show bofK d 4 from bofK_4 HL.out e0)
              clear e0
              go_wp2
              go_quiet (fail)
              go_wp2
              go_roundw
              case rel => exact ⟨4, by go_num, (ln_drewN (hb.alloc hb.size _) _), NX.out, by omega⟩
              case measure => simp [intOf]
          obtain rfl : k = 4 := hk
          have F := Lib.hid (show fb s.data.toList = (0, 0) by rw [HR.out]; exact fb_bad HL.out)
          go_wp2
          go_ret2
          exact FbA.mk F.out rfl hb
    · have F := Lib.hid (show fb s.data.toList = (0, 0) by rw [HR0.out, ← HB0.out]; exact fb_other hl h92)
      have p0 : ¬ (b.toNat : Int) = 92 := fun k => h92 (UInt8.toNat_inj.1 (by show b.toNat = 92; omega))
      clear h92
      go_enter Tryd.func17, Tryd.ntmps17
      go_wp2_with (go_at_call 25; refine (letterOf_any b w hM).mono ?_; rintro e w1 ⟨rfl, hb⟩)
      go_ret2
      exact FbA.mk F.out rfl hb
end Go.Proofs.YtoafdacgekmomafDoor
