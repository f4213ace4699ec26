/-
  What is proved here: what package rule's printParts answers of a rule with nothing wrong (a contract over the translation).
-/
import Derived.Test.YtoafdacgekmomabGreatDoorRlList
import Derived.Test.YtoafdacgekmomabGreatDoorRlDay
import Derived.Test.YtoafdacgekmomabGreatDoorQD
import Derived.Test.YtoafdacgekmomabGreatDoorLast
import Derived.Deep.MidRow
namespace Go.Proofs.YtoafdacgekmomabGreatDoor
open Go.RowKit Cal Txt

theorem wt_len (x : Int × Int) (h1 : 1 ≤ x.2) (h7 : x.2 ≤ 7) (h0 : -999999999 ≤ x.1) (h5 : x.1 ≤ 999999999) : (wt x).length ≤ 30 := by
  have d2 := dn_len h1 h7
  have d3 := nt_len x.1 h0 h5
  unfold wt
  split
  · rw [List.nil_append]; omega
  · rw [List.length_append]; omega
/-- Seven empty texts lie in a block. -/
def Sev (W : World) (b : Nat) : Prop := (∀ i, i < 7 → W.cell? ⟨b, i, none⟩ = some (.string ⟨#[]⟩)) ∧ ∀ i, W.frozen? ⟨b, i, none⟩ = false
theorem Sev.new (W : World) (t : TypeId) : Sev (W.alloc (.cells #[.string ⟨#[]⟩, .string ⟨#[]⟩, .string ⟨#[]⟩, .string ⟨#[]⟩, .string ⟨#[]⟩, .string ⟨#[]⟩, .string ⟨#[]⟩] t)) W.heap.size := by
  refine ⟨fun i hi => ?_, fun i => by simp⟩
  rcases seven hi with rfl | rfl | rfl | rfl | rfl | rfl | rfl <;> simp
theorem Sev.lt {W : World} {b : Nat} (h : Sev W b) : b < W.heap.size := cell_lt (h.1 0 (by decide))
theorem Sev.on {W W' : World} {b : Nat} (h : Sev W b) (q : Below W.heap.size W W') : Sev W' b := by
  obtain ⟨c, f⟩ := bcell q
  exact ⟨fun i hi => by rw [c _ _ h.lt]; exact h.1 i hi, fun i => by rw [f _ _ h.lt]; exact h.2 i⟩
theorem Sev.there {W : World} {b : Nat} (h : Sev W b) : W.there b 0 7 := fun j hj => by
  rw [Nat.zero_add, h.1 j hj]
  exact ⟨rfl, h.2 j⟩
theorem below_setCells {B : Nat} {a : World} (b : Nat) : ∀ (vs : List Value) (o : Nat) (w : World), Below B a w → B ≤ b → Below B a (w.setCells b o vs)
  | [], _, _, h, _ => h
  | v :: r, o, w, h, hb => below_setCells b r (o + 1) (w.setCell ⟨b, o, none⟩ v) (h.setCell hb _) hb
theorem wpList_store_new {P : Program} {ops : Array Oper} {rest : List Oper} {op : Oper} {a : Act} {w : World} {Q : Exit → Act → World → Prop} (hgd : op.guard = none) (ty : TypeId) (x y : Operand) (ho : op.op = .store ty x y)
    (b : Nat) (cells : Array Value) (hx : a.eval x = .pointer (some ⟨b, 0, none⟩)) (hy : a.eval y = .agg cells) (ht : w.there b 0 cells.size) (hi : (P.info? ty).map (·.size) = some cells.size) (h1 : cells.all (·.oneCell') = true)
    {B : Nat} {w0 : World} (hB : Below B w0 w) (hb : B ≤ b) (h : ∀ W4 : World, W4.rangeAt b 0 cells.toList → Below B w0 W4 → wpList P ops Q rest (a.put op.dst undef) W4) : wpList P ops Q (op :: rest) a w :=
  wpList_store_mid hgd ty x y ho b 0 cells hx hy ht hi h1 (h _ (World.rangeAt_setCells_same w b 0 cells.toList (by simpa using ht)) (below_setCells b cells.toList 0 w hB hb))
theorem fU : ∀ args w, (callFunc 53 args).run Tryz.prog w = .ok (.enter 53 args) w := enters_of Tryz.func53 (by kernel_rfl) rfl
theorem fI : ∀ args w, (callFunc 54 args).run Tryz.prog w = .ok (.enter 54 args) w := enters_of Tryz.func54 (by kernel_rfl) rfl
theorem fW : ∀ args w, (callFunc 57 args).run Tryz.prog w = .ok (.enter 57 args) w := enters_of Tryz.func57 (by kernel_rfl) rfl
set_option maxRecDepth 100000 in
set_option maxHeartbeats 4000000 in
theorem printParts_walk (r : Rl) (am ad aw ap : Option Addr) (cm cd cw cp : Nat) (u : List UInt8) (w : World) (hm : Ints w (.slice am r.months.length cm) r.months) (hd : Ints w (.slice ad r.days.length cd) r.days) (hw : Nths w (.slice aw r.weeks.length cw) r.weeks) (hp : Ints w (.slice ap r.pick.length cp) r.pick)
    (hP : Pow w) (hW : WdW w) (h1 : ok1 r = true) (h2 : ok2 r = true) (h3 : itemsB r = true) :
    Calls Tryz.prog 26 #[.agg #[.int .i64 r.freq, .int .i64 r.every, .int .i64 r.count, .int .i64 r.till, .slice am r.months.length cm, .slice ad r.days.length cd, .slice aw r.weeks.length cw, .slice ap r.pick.length cp], .string (tb u)] w fun e w' => e = .returned (.agg #[.string (tb (unt r.every 1)), .string (tb (unt r.count 0)), .string (tb u), .string (tb (lt nt r.months)), .string (tb (lt nt r.days)), .string (tb (lt wt r.weeks)), .string (tb (lt nt r.pick))]) ∧ Below w.heap.size w w' := by
  obtain ⟨l1, l2, l3, l4⟩ := ok2_yes h2
  obtain ⟨⟨⟨g1, g2⟩, g3⟩, g4⟩ : ((r.months.all monP = true ∧ r.days.all plaP = true) ∧ r.weeks.all wkP = true) ∧ r.pick.all plaP = true := by simpa [itemsB] using h3
  have n1 : ∀ x ∈ r.months, 1 ≤ x ∧ x ≤ 12 := fun x hx => of_decide_eq_true (List.all_eq_true.1 g1 x hx)
  have n2 : ∀ x ∈ r.days, ¬ x = 0 ∧ -31 ≤ x ∧ x ≤ 31 := fun x hx => of_decide_eq_true (List.all_eq_true.1 g2 x hx)
  have n3 : ∀ x ∈ r.weeks, 1 ≤ x.2 ∧ x.2 ≤ 7 ∧ -5 ≤ x.1 ∧ x.1 ≤ 5 := fun x hx => of_decide_eq_true (List.all_eq_true.1 g3 x hx)
  have n4 : ∀ x ∈ r.pick, ¬ x = 0 ∧ -31 ≤ x ∧ x ≤ 31 := fun x hx => of_decide_eq_true (List.all_eq_true.1 g4 x hx)
  obtain ⟨⟨a1, a2⟩, ⟨b1, b2⟩, ⟨c1, c2⟩, d1, d2'⟩ := of_decide_eq_true h1
  clear g1 g2 g3 g4 h1 h2 h3
  have K1 : Hid (∀ W, Below w.heap.size w W → Calls Tryz.prog 55 #[.slice am r.months.length cm, .func (.func 54) #[] #[]] W fun e w' => e = .returned (.string (tb (lt nt r.months))) ∧ Below W.heap.size W w') := Lib.hid (fun W hb =>
    printList_int _ nt fI _ _ W (hm.on hb) (by omega) (fun x hx => by have := n1 x hx; have := nt_len x (by omega) (by omega); omega) (fun x hx W2 hb2 => by have := n1 x hx; exact itoa_nt x W2 ((hP.below hb).below hb2) (by omega) (by omega)))
  have K2 : Hid (∀ W, Below w.heap.size w W → Calls Tryz.prog 55 #[.slice ad r.days.length cd, .func (.func 54) #[] #[]] W fun e w' => e = .returned (.string (tb (lt nt r.days))) ∧ Below W.heap.size W w') := Lib.hid (fun W hb =>
    printList_int _ nt fI _ _ W (hd.on hb) (by omega) (fun x hx => by have := n2 x hx; have := nt_len x (by omega) (by omega); omega) (fun x hx W2 hb2 => by have := n2 x hx; exact itoa_nt x W2 ((hP.below hb).below hb2) (by omega) (by omega)))
  have K3 : Hid (∀ W, Below w.heap.size w W → Calls Tryz.prog 56 #[.slice aw r.weeks.length cw, .func (.func 57) #[] #[]] W fun e w' => e = .returned (.string (tb (lt wt r.weeks))) ∧ Below W.heap.size W w') := Lib.hid (fun W hb =>
    printList_nth _ wt fW _ _ W (hw.on hb) (by omega) (fun x hx => by have := n3 x hx; exact wt_len x this.1 this.2.1 (by omega) (by omega)) (fun x hx W2 hb2 => by have := n3 x hx; exact printWeek_any x W2 ((hP.below hb).below hb2) ((hW.below hb).below hb2) this.1 this.2.1 this.2.2.1 this.2.2.2))
  have K4 : Hid (∀ W, Below w.heap.size w W → Calls Tryz.prog 55 #[.slice ap r.pick.length cp, .func (.func 54) #[] #[]] W fun e w' => e = .returned (.string (tb (lt nt r.pick))) ∧ Below W.heap.size W w') := Lib.hid (fun W hb =>
    printList_int _ nt fI _ _ W (hp.on hb) (by omega) (fun x hx => by have := n4 x hx; have := nt_len x (by omega) (by omega); omega) (fun x hx W2 hb2 => by have := n4 x hx; exact itoa_nt x W2 ((hP.below hb).below hb2) (by omega) (by omega)))
  have K5 : Hid (∀ W, Below w.heap.size w W → Calls Tryz.prog 53 #[.int .i64 r.every, .int .i64 1] W fun e w' => e = .returned (.string (tb (unt r.every 1))) ∧ Below W.heap.size W w') := Lib.hid (fun W hb => unless_any _ _ W (hP.below hb) (by omega) (by omega))
  have K6 : Hid (∀ W, Below w.heap.size w W → Calls Tryz.prog 53 #[.int .i64 r.count, .int .i64 0] W fun e w' => e = .returned (.string (tb (unt r.count 0))) ∧ Below W.heap.size W w') := Lib.hid (fun W hb => unless_any _ _ W (hP.below hb) (by omega) (by omega))
  clear hm hd hw hp hP hW n1 n2 n3 n4 l1 l2 l3 l4 a1 a2 b1 b2 c1 c2 d1 d2'
  have R0 := (RBox.new w r.freq r.every r.count r.till (.slice am r.months.length cm) (.slice ad r.days.length cd) (.slice aw r.weeks.length cw) (.slice ap r.pick.length cp) 25)
  have R1 := Lib.hid (R0.on ((Below.refl _ _).alloc (Nat.le_refl _) (.cells #[.string ⟨#[]⟩, .string ⟨#[]⟩, .string ⟨#[]⟩, .string ⟨#[]⟩, .string ⟨#[]⟩, .string ⟨#[]⟩, .string ⟨#[]⟩] 57)))
  have B1 : Hid (Below w.heap.size w ((w.alloc (.cells #[.int .i64 r.freq, .int .i64 r.every, .int .i64 r.count, .int .i64 r.till, .slice am r.months.length cm, .slice ad r.days.length cd, .slice aw r.weeks.length cw, .slice ap r.pick.length cp] 25)).alloc (.cells #[.string ⟨#[]⟩, .string ⟨#[]⟩, .string ⟨#[]⟩, .string ⟨#[]⟩, .string ⟨#[]⟩, .string ⟨#[]⟩, .string ⟨#[]⟩] 57))) := Lib.hid (((Below.refl _ _).alloc (Nat.le_refl _) _).alloc (by simp) _)
  have A1 : Hid (Sev ((w.alloc (.cells #[.int .i64 r.freq, .int .i64 r.every, .int .i64 r.count, .int .i64 r.till, .slice am r.months.length cm, .slice ad r.days.length cd, .slice aw r.weeks.length cw, .slice ap r.pick.length cp] 25)).alloc (.cells #[.string ⟨#[]⟩, .string ⟨#[]⟩, .string ⟨#[]⟩, .string ⟨#[]⟩, .string ⟨#[]⟩, .string ⟨#[]⟩, .string ⟨#[]⟩] 57)) (w.heap.size + 1)) := Lib.hid (by have := Sev.new (w.alloc (.cells #[.int .i64 r.freq, .int .i64 r.every, .int .i64 r.count, .int .i64 r.till, .slice am r.months.length cm, .slice ad r.days.length cd, .slice aw r.weeks.length cw, .slice ap r.pick.length cp] 25)) 57; simpa using this)
  clear R0
  go_enter Tryz.func26, Tryz.ntmps26
  go_wp2_with fail
  generalize ((w.alloc (.cells #[.int .i64 r.freq, .int .i64 r.every, .int .i64 r.count, .int .i64 r.till, .slice am r.months.length cm, .slice ad r.days.length cd, .slice aw r.weeks.length cw, .slice ap r.pick.length cp] 25)).alloc (.cells #[.string ⟨#[]⟩, .string ⟨#[]⟩, .string ⟨#[]⟩, .string ⟨#[]⟩, .string ⟨#[]⟩, .string ⟨#[]⟩, .string ⟨#[]⟩] 57)) = W at R1 B1 A1 ⊢
  obtain ⟨_, q1, q2, _, q4, q5, q6, q7⟩ := id R1.out
  have r1 := cell_regrown q1
  have r2 := cell_regrown q2
  have r4 := cell_regrown q4
  have r5 := cell_regrown q5
  have r6 := cell_regrown q6
  have r7 := cell_regrown q7
  refine wp_region_last_at 22 rfl (by kernel_rfl) (by kernel_rfl) ?_
  simp only [List.take_succ_cons, List.take_zero]
  repeat (quiet_step (first
    | (go_at_call_of 53 (Value.int .i64 r.every); exact Calls.regrown_of (K5.out _ (B1.out.trans ((below_regrown W _ _).mono B1.out.size))))
    | (go_at_call_of 53 (Value.int .i64 r.count); exact Calls.regrown_of (K6.out _ (B1.out.trans ((below_regrown W _ _).mono B1.out.size))))
    | (go_at_call_of 55 (Value.slice am r.months.length cm); exact Calls.regrown_of (K1.out _ (B1.out.trans ((below_regrown W _ _).mono B1.out.size))))
    | (go_at_call_of 55 (Value.slice ad r.days.length cd); exact Calls.regrown_of (K2.out _ (B1.out.trans ((below_regrown W _ _).mono B1.out.size))))
    | (go_at_call_of 55 (Value.slice ap r.pick.length cp); exact Calls.regrown_of (K4.out _ (B1.out.trans ((below_regrown W _ _).mono B1.out.size))))
    | (go_at_call 56; exact Calls.regrown_of (K3.out _ (B1.out.trans ((below_regrown W _ _).mono B1.out.size))))))
  refine wpQuiet_nil ?_
  intro _ hw'
  obtain ⟨⟨dq, osq⟩, hw''⟩ := hw'
  subst hw''
  have hB2 := B1.out.trans ((below_regrown W dq osq).mono B1.out.size)
  have S3 := A1.out.on (below_regrown W dq osq)
  clear r1 r2 r4 r5 r6 r7 q1 q2 q4 q5 q6 q7 R1 K1 K2 K3 K4 K5 K6
  generalize Sort.grow (redrawn W dq) osq = W3 at hB2 S3 ⊢
  refine wpList_store_new rfl _ _ _ rfl (w.heap.size + 1) #[.string (tb (unt r.every 1)), .string (tb (unt r.count 0)), .string (tb u), .string (tb (lt nt r.months)), .string (tb (lt nt r.days)), .string (tb (lt wt r.weeks)), .string (tb (lt nt r.pick))] rfl rfl S3.there (by kernel_rfl) (by simp [Value.oneCell']) hB2 (by omega) ?_
  clear S3 hB2 A1 B1 W3
  intro W4 R4 B4
  have r0 := R4 0 _ rfl
  have r1 := R4 1 _ rfl
  have r2 := R4 2 _ rfl
  have r3 := R4 3 _ rfl
  have r4 := R4 4 _ rfl
  have r5 := R4 5 _ rfl
  have r6 := R4 6 _ rfl
  simp only [Nat.zero_add] at r0 r1 r2 r3 r4 r5 r6
  clear R4
  go_wp2_with fail
  refine bodyPost_ret (v := .agg #[.string (tb (unt r.every 1)), .string (tb (unt r.count 0)), .string (tb u), .string (tb (lt nt r.months)), .string (tb (lt nt r.days)), .string (tb (lt wt r.weeks)), .string (tb (lt nt r.pick))]) (by simp [results, Tryz.results26, go_sem, r0, r1, r2, r3, r4, r5, r6]) rfl ⟨rfl, B4⟩
/-- What a rule's parts are as text. -/
def pt (r : Rl) (k : Nat) : List UInt8 := if k = 0 then unt r.every 1 else if k = 1 then unt r.count 0 else if k = 2 then dayt r.till else if k = 3 then lt nt r.months else if k = 4 then lt nt r.days else if k = 5 then lt wt r.weeks else lt nt r.pick
end Go.Proofs.YtoafdacgekmomabGreatDoor
