/-
  What is proved here: what package wheel's New, Now and Len answer (contracts over the translation).
-/
import Derived.Test.YtpnbnnndpbjgmaaDoorWhSpot
import Derived.Test.YtpnbnnndpbjgmaaDoorClk
namespace Go.Proofs.YtpnbnnndpbjgmaaDoor.Qu
open Go.RowKit

/-- A wheel's rows where there are none. -/
def S0 : Nat → Value := fun _ => .slice none 0 0
theorem wheel_build (now : Int) (W : World) : (Instr.build 51 #[(0, .int .i64 now)]).run Tryd.prog W = .ok (.agg (wcs (hf now 0 S0)).toArray) W := by kernel_rfl
theorem wpl_build (w : World) {ops : Array Oper} {rest : List Oper} {o : Oper} {a : Act} {Q : Exit → Act → World → Prop} (hgd : o.guard = none) (t : TypeId) (i : Nat) (x : Operand) (ho : o.op = .build t #[(i, x)]) (v v' : Value) (hx : a.eval x = v)
    (hr : (Instr.build t #[(i, v)]).run Tryd.prog w = .ok v' w) (h : wpList Tryd.prog ops Q rest (a.put o.dst v') w) : wpList Tryd.prog ops Q (o :: rest) a w :=
  wpList_plain hgd fun _ hK => by
    unfold Oper.wp execOp
    simp only [ho, Sem.run_bind, Sem.run_pure, Result.andThen_ok, List.map_toArray, List.map_cons, List.map_nil, hx, hr]
    exact hK _ _ h
theorem wpl_box (w : World) {ops : Array Oper} {rest : List Oper} {o : Oper} {a : Act} {Q : Exit → Act → World → Prop} (hgd : o.guard = none) (t : TypeId) (x : Operand) (ho : o.op = .box t x) (cs : Array Value) (hx : a.eval x = .agg cs)
    (h : wpList Tryd.prog ops Q rest (a.put o.dst (.pointer (some ⟨w.heap.size, 0, none⟩))) (w.alloc (.cells cs t))) : wpList Tryd.prog ops Q (o :: rest) a w :=
  wpList_plain hgd fun _ hK => by
    unfold Oper.wp execOp
    have hb : (Instr.box t (.agg cs)).run Tryd.prog w = .ok (.pointer (some ⟨w.heap.size, 0, none⟩)) (w.alloc (.cells cs t)) := by
      simp [Instr.box, newVar, newRow]
      rfl
    simp only [ho, Sem.run_bind, Sem.run_pure, Result.andThen_ok, hx, hb]
    exact hK _ _ h
/-- No wheel. -/
def WnoA (w : World) (e : Ending) (w' : World) : Prop := e = .returned (.tuple #[.pointer none, .iface 47 (.int .i64 1)]) ∧ w' = w
theorem wnew_no (now : Int) (w : World) (h : ist now = false) : Calls Tryd.prog 5 #[.int .i64 now] w (WnoA w) := by
  have FI : Hid (WnoA w (.returned (.tuple #[.pointer none, .iface 47 (.int .i64 1)])) w) := Lib.hid ⟨rfl, rfl⟩
  generalize WnoA w = PP at FI ⊢
  go_enter Tryd.func5, Tryd.ntmps5
  go_wp2_with (go_at_call 17; refine (isTime_any _ _).mono ?_; rintro e w2 ⟨rfl, hw⟩; replace hw := hw.symm; subst hw; rw [h])
  exact FI.out
/-- A wheel just made. -/
def WnA (now : Int) (w : World) (e : Ending) (w' : World) : Prop := e = .returned (.tuple #[.pointer (some ⟨w.heap.size, 0, none⟩), .nilIface]) ∧ Below w.heap.size w w' ∧ w'.heap.size = w.heap.size + 1 ∧ Wm w' w.heap.size now 0 S0 (fun _ => [])
theorem wnew_yes (now : Int) (w : World) (h : ist now = true) : Calls Tryd.prog 5 #[.int .i64 now] w (WnA now w) := by
  have HB := Lib.hid (wheel_build now)
  obtain ⟨C, hC⟩ : ∃ C, C = (wcs (hf now 0 S0)).toArray := ⟨_, rfl⟩
  rw [← hC] at HB
  have hb : Wb (w.alloc (.cells C 51)) w.heap.size now 0 S0 := by
    unfold Wb
    rw [← hC]
    exact heap_alloc_new w _
  have FI : Hid (WnA now w (.returned (.tuple #[.pointer (some ⟨w.heap.size, 0, none⟩), .nilIface])) (w.alloc (.cells C 51))) := Lib.hid
    ⟨rfl, (Below.refl _ _).alloc (Nat.le_refl _) _, by simp, ⟨hb, fun k _ => World.ownsRow_nil _ _ _ _, fun k j _ _ _ g hg => by cases hg⟩⟩
  generalize WnA now w = PP at FI ⊢
  clear hC hb
  go_enter Tryd.func5, Tryd.ntmps5
  go_upto_region 3 with (go_at_call 17; refine (isTime_any _ _).mono ?_; rintro e w2 ⟨rfl, hw⟩; replace hw := hw.symm; subst hw; rw [h])
  go_wp2_with (first
    | (refine wpl_build _ rfl 51 0 (.tmp 8) rfl (.int .i64 now) (.agg C) rfl (HB.out _) ?_)
    | (refine wpl_box _ rfl 51 (.tmp 9) rfl C rfl ?_))
  exact FI.out
theorem wlen_any (w : World) (b : Nat) (now many : Int) (S : Nat → Value) (h : Wb w b now many S) : Calls Tryd.prog 16 #[.pointer (some ⟨b, 0, none⟩)] w fun e w' => e = .returned (.int .i64 many) ∧ w' = w := by
  have c := h.cmany
  have bl := h.lt
  clear h
  go_enter Tryd.func16, Tryd.ntmps16
  go_wp2
  go_ret
  exact ⟨rfl, rfl⟩
theorem wnow_any (w : World) (b : Nat) (now many : Int) (S : Nat → Value) (h : Wb w b now many S) : Calls Tryd.prog 15 #[.pointer (some ⟨b, 0, none⟩)] w fun e w' => e = .returned (.int .i64 now) ∧ w' = w := by
  have c := h.cnow
  have bl := h.lt
  clear h
  go_enter Tryd.func15, Tryd.ntmps15
  go_wp2
  go_ret
  exact ⟨rfl, rfl⟩
end Go.Proofs.YtpnbnnndpbjgmaaDoor.Qu
