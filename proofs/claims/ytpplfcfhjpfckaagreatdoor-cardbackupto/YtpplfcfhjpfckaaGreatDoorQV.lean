/-
  What is proved here: what package rule's printParts answers of a rule with nothing wrong (a contract over the translation).
  What is proved here: what package rule's Print answers of any rule (contracts over the translation); the words are asked as premises.
  What is proved here: what package rule's Print answers of any rule (contracts over the translation); the tables and words are asked as premises.
-/
import Derived.Test.YtpplfcfhjpfckaaGreatDoorQU
import Derived.Test.YtpplfcfhjpfckaaGreatDoorQD
import Derived.Test.YtpplfcfhjpfckaaGreatDoorLast
import Derived.Deep.MidRow
namespace Go.Proofs.YtpplfcfhjpfckaaGreatDoor
open Go.RowKit Cal Txt

theorem wt_len (x : Int × Int) (h1 : 1 ≤ x.2) (h7 : x.2 ≤ 7) (h0 : -999999999 ≤ x.1) (h5 : x.1 ≤ 999999999) : (wt x).length ≤ 30 := by
  have d2 := dn_len h1 h7
  have d3 := nt_len x.1 h0 h5
  unfold wt
  split
  · rw [List.nil_append]; omega
  · rw [List.length_append]; omega
/-- Seven empty texts lie in a block. -/
def Sev (W : World) (b : Nat) : Prop := (∀ i, i < 7 → W.cell? ⟨b, i, none⟩ = some (.string ⟨#[]⟩)) ∧ ∀ i, W.frozen? ⟨b, i, none⟩ = false
theorem Sev.new (W : World) (t : TypeId) : Sev (W.alloc (.cells #[.string ⟨#[]⟩, .string ⟨#[]⟩, .string ⟨#[]⟩, .string ⟨#[]⟩, .string ⟨#[]⟩, .string ⟨#[]⟩, .string ⟨#[]⟩] t)) W.heap.size := by
  refine ⟨fun i hi => ?_, fun i => by simp⟩
  rcases seven hi with rfl | rfl | rfl | rfl | rfl | rfl | rfl <;> simp
theorem Sev.lt {W : World} {b : Nat} (h : Sev W b) : b < W.heap.size := cell_lt (h.1 0 (by decide))
theorem Sev.on {W W' : World} {b : Nat} (h : Sev W b) (q : Below W.heap.size W W') : Sev W' b := by
  obtain ⟨c, f⟩ := bcell q
  exact ⟨fun i hi => by rw [c _ _ h.lt]; exact h.1 i hi, fun i => by rw [f _ _ h.lt]; exact h.2 i⟩
theorem Sev.there {W : World} {b : Nat} (h : Sev W b) : W.there b 0 7 := fun j hj => by
  rw [Nat.zero_add, h.1 j hj]
  exact ⟨rfl, h.2 j⟩
theorem below_setCells {B : Nat} {a : World} (b : Nat) : ∀ (vs : List Value) (o : Nat) (w : World), Below B a w → B ≤ b → Below B a (w.setCells b o vs)
  | [], _, _, h, _ => h
  | v :: r, o, w, h, hb => below_setCells b r (o + 1) (w.setCell ⟨b, o, none⟩ v) (h.setCell hb _) hb
theorem wpList_store_new {P : Program} {ops : Array Oper} {rest : List Oper} {op : Oper} {a : Act} {w : World} {Q : Exit → Act → World → Prop} (hgd : op.guard = none) (ty : TypeId) (x y : Operand) (ho : op.op = .store ty x y)
    (b : Nat) (cells : Array Value) (hx : a.eval x = .pointer (some ⟨b, 0, none⟩)) (hy : a.eval y = .agg cells) (ht : w.there b 0 cells.size) (hi : (P.info? ty).map (·.size) = some cells.size) (h1 : cells.all (·.oneCell') = true)
    {B : Nat} {w0 : World} (hB : Below B w0 w) (hb : B ≤ b) (h : ∀ W4 : World, W4.rangeAt b 0 cells.toList → Below B w0 W4 → wpList P ops Q rest (a.put op.dst undef) W4) : wpList P ops Q (op :: rest) a w :=
  wpList_store_mid hgd ty x y ho b 0 cells hx hy ht hi h1 (h _ (World.rangeAt_setCells_same w b 0 cells.toList (by simpa using ht)) (below_setCells b cells.toList 0 w hB hb))
theorem fU : ∀ args w, (callFunc 134 args).run Tryz.prog w = .ok (.enter 134 args) w := enters_of Tryz.func134 (by kernel_rfl) rfl
theorem fI : ∀ args w, (callFunc 88 args).run Tryz.prog w = .ok (.enter 88 args) w := enters_of Tryz.func88 (by kernel_rfl) rfl
theorem fW : ∀ args w, (callFunc 137 args).run Tryz.prog w = .ok (.enter 137 args) w := enters_of Tryz.func137 (by kernel_rfl) rfl
set_option maxRecDepth 100000 in
set_option maxHeartbeats 4000000 in
theorem printParts_walk (r : Rl) (am ad aw ap : Option Addr) (cm cd cw cp : Nat) (u : List UInt8) (w : World) (hm : Ints w (.slice am r.months.length cm) r.months) (hd : Ints w (.slice ad r.days.length cd) r.days) (hw : Nths w (.slice aw r.weeks.length cw) r.weeks) (hp : Ints w (.slice ap r.pick.length cp) r.pick)
    (hP : Pow w) (hW : WdW w) (h1 : ok1 r = true) (h2 : ok2 r = true) (h3 : itemsB r = true) :
    Calls Tryz.prog 115 #[.agg #[.int .i64 r.freq, .int .i64 r.every, .int .i64 r.count, .int .i64 r.till, .slice am r.months.length cm, .slice ad r.days.length cd, .slice aw r.weeks.length cw, .slice ap r.pick.length cp], .string (tb u)] w fun e w' => e = .returned (.agg #[.string (tb (unt r.every 1)), .string (tb (unt r.count 0)), .string (tb u), .string (tb (lt nt r.months)), .string (tb (lt nt r.days)), .string (tb (lt wt r.weeks)), .string (tb (lt nt r.pick))]) ∧ Below w.heap.size w w' := by
  obtain ⟨l1, l2, l3, l4⟩ := ok2_yes h2
  obtain ⟨⟨⟨g1, g2⟩, g3⟩, g4⟩ : ((r.months.all monP = true ∧ r.days.all plaP = true) ∧ r.weeks.all wkP = true) ∧ r.pick.all plaP = true := by simpa [itemsB] using h3
  have n1 : ∀ x ∈ r.months, 1 ≤ x ∧ x ≤ 12 := fun x hx => of_decide_eq_true (List.all_eq_true.1 g1 x hx)
  have n2 : ∀ x ∈ r.days, ¬ x = 0 ∧ -31 ≤ x ∧ x ≤ 31 := fun x hx => of_decide_eq_true (List.all_eq_true.1 g2 x hx)
  have n3 : ∀ x ∈ r.weeks, 1 ≤ x.2 ∧ x.2 ≤ 7 ∧ -5 ≤ x.1 ∧ x.1 ≤ 5 := fun x hx => of_decide_eq_true (List.all_eq_true.1 g3 x hx)
  have n4 : ∀ x ∈ r.pick, ¬ x = 0 ∧ -31 ≤ x ∧ x ≤ 31 := fun x hx => of_decide_eq_true (List.all_eq_true.1 g4 x hx)
  obtain ⟨⟨a1, a2⟩, ⟨b1, b2⟩, ⟨c1, c2⟩, d1, d2'⟩ := of_decide_eq_true h1
  clear g1 g2 g3 g4 h1 h2 h3
  have K1 : Hid (∀ W, Below w.heap.size w W → Calls Tryz.prog 135 #[.slice am r.months.length cm, .func (.func 88) #[] #[]] W fun e w' => e = .returned (.string (tb (lt nt r.months))) ∧ Below W.heap.size W w') := Lib.hid (fun W hb =>
    printList_int _ nt fI _ _ W (hm.on hb) (by omega) (fun x hx => by have := n1 x hx; have := nt_len x (by omega) (by omega); omega) (fun x hx W2 hb2 => by have := n1 x hx; exact itoa_nt x W2 ((hP.below hb).below hb2) (by omega) (by omega)))
  have K2 : Hid (∀ W, Below w.heap.size w W → Calls Tryz.prog 135 #[.slice ad r.days.length cd, .func (.func 88) #[] #[]] W fun e w' => e = .returned (.string (tb (lt nt r.days))) ∧ Below W.heap.size W w') := Lib.hid (fun W hb =>
    printList_int _ nt fI _ _ W (hd.on hb) (by omega) (fun x hx => by have := n2 x hx; have := nt_len x (by omega) (by omega); omega) (fun x hx W2 hb2 => by have := n2 x hx; exact itoa_nt x W2 ((hP.below hb).below hb2) (by omega) (by omega)))
  have K3 : Hid (∀ W, Below w.heap.size w W → Calls Tryz.prog 136 #[.slice aw r.weeks.length cw, .func (.func 137) #[] #[]] W fun e w' => e = .returned (.string (tb (lt wt r.weeks))) ∧ Below W.heap.size W w') := Lib.hid (fun W hb =>
    printList_nth _ wt fW _ _ W (hw.on hb) (by omega) (fun x hx => by have := n3 x hx; exact wt_len x this.1 this.2.1 (by omega) (by omega)) (fun x hx W2 hb2 => by have := n3 x hx; exact printWeek_any x W2 ((hP.below hb).below hb2) ((hW.below hb).below hb2) this.1 this.2.1 this.2.2.1 this.2.2.2))
  have K4 : Hid (∀ W, Below w.heap.size w W → Calls Tryz.prog 135 #[.slice ap r.pick.length cp, .func (.func 88) #[] #[]] W fun e w' => e = .returned (.string (tb (lt nt r.pick))) ∧ Below W.heap.size W w') := Lib.hid (fun W hb =>
    printList_int _ nt fI _ _ W (hp.on hb) (by omega) (fun x hx => by have := n4 x hx; have := nt_len x (by omega) (by omega); omega) (fun x hx W2 hb2 => by have := n4 x hx; exact itoa_nt x W2 ((hP.below hb).below hb2) (by omega) (by omega)))
  have K5 : Hid (∀ W, Below w.heap.size w W → Calls Tryz.prog 134 #[.int .i64 r.every, .int .i64 1] W fun e w' => e = .returned (.string (tb (unt r.every 1))) ∧ Below W.heap.size W w') := Lib.hid (fun W hb => unless_any _ _ W (hP.below hb) (by omega) (by omega))
  have K6 : Hid (∀ W, Below w.heap.size w W → Calls Tryz.prog 134 #[.int .i64 r.count, .int .i64 0] W fun e w' => e = .returned (.string (tb (unt r.count 0))) ∧ Below W.heap.size W w') := Lib.hid (fun W hb => unless_any _ _ W (hP.below hb) (by omega) (by omega))
  clear hm hd hw hp hP hW n1 n2 n3 n4 l1 l2 l3 l4 a1 a2 b1 b2 c1 c2 d1 d2'
  have R0 := (RBox.new w r.freq r.every r.count r.till (.slice am r.months.length cm) (.slice ad r.days.length cd) (.slice aw r.weeks.length cw) (.slice ap r.pick.length cp) 25)
  have R1 := Lib.hid (R0.on ((Below.refl _ _).alloc (Nat.le_refl _) (.cells #[.string ⟨#[]⟩, .string ⟨#[]⟩, .string ⟨#[]⟩, .string ⟨#[]⟩, .string ⟨#[]⟩, .string ⟨#[]⟩, .string ⟨#[]⟩] 156)))
  have B1 : Hid (Below w.heap.size w ((w.alloc (.cells #[.int .i64 r.freq, .int .i64 r.every, .int .i64 r.count, .int .i64 r.till, .slice am r.months.length cm, .slice ad r.days.length cd, .slice aw r.weeks.length cw, .slice ap r.pick.length cp] 25)).alloc (.cells #[.string ⟨#[]⟩, .string ⟨#[]⟩, .string ⟨#[]⟩, .string ⟨#[]⟩, .string ⟨#[]⟩, .string ⟨#[]⟩, .string ⟨#[]⟩] 156))) := Lib.hid (((Below.refl _ _).alloc (Nat.le_refl _) _).alloc (by simp) _)
  have A1 : Hid (Sev ((w.alloc (.cells #[.int .i64 r.freq, .int .i64 r.every, .int .i64 r.count, .int .i64 r.till, .slice am r.months.length cm, .slice ad r.days.length cd, .slice aw r.weeks.length cw, .slice ap r.pick.length cp] 25)).alloc (.cells #[.string ⟨#[]⟩, .string ⟨#[]⟩, .string ⟨#[]⟩, .string ⟨#[]⟩, .string ⟨#[]⟩, .string ⟨#[]⟩, .string ⟨#[]⟩] 156)) (w.heap.size + 1)) := Lib.hid (by have := Sev.new (w.alloc (.cells #[.int .i64 r.freq, .int .i64 r.every, .int .i64 r.count, .int .i64 r.till, .slice am r.months.length cm, .slice ad r.days.length cd, .slice aw r.weeks.length cw, .slice ap r.pick.length cp] 25)) 156; simpa using this)
  clear R0
  go_enter Tryz.func115, Tryz.ntmps115
  go_wp2_with fail
  generalize ((w.alloc (.cells #[.int .i64 r.freq, .int .i64 r.every, .int .i64 r.count, .int .i64 r.till, .slice am r.months.length cm, .slice ad r.days.length cd, .slice aw r.weeks.length cw, .slice ap r.pick.length cp] 25)).alloc (.cells #[.string ⟨#[]⟩, .string ⟨#[]⟩, .string ⟨#[]⟩, .string ⟨#[]⟩, .string ⟨#[]⟩, .string ⟨#[]⟩, .string ⟨#[]⟩] 156)) = W at R1 B1 A1 ⊢
  obtain ⟨_, q1, q2, _, q4, q5, q6, q7⟩ := id R1.out
  have r1 := cell_regrown q1
  have r2 := cell_regrown q2
  have r4 := cell_regrown q4
  have r5 := cell_regrown q5
  have r6 := cell_regrown q6
  have r7 := cell_regrown q7
  refine wp_region_last_at 22 rfl (by kernel_rfl) (by kernel_rfl) ?_
  simp only [List.take_succ_cons, List.take_zero]
  repeat (quiet_step (first
    | (go_at_call_of 134 (Value.int .i64 r.every); exact Calls.regrown_of (K5.out _ (B1.out.trans ((below_regrown W _ _).mono B1.out.size))))
    | (go_at_call_of 134 (Value.int .i64 r.count); exact Calls.regrown_of (K6.out _ (B1.out.trans ((below_regrown W _ _).mono B1.out.size))))
    | (go_at_call_of 135 (Value.slice am r.months.length cm); exact Calls.regrown_of (K1.out _ (B1.out.trans ((below_regrown W _ _).mono B1.out.size))))
    | (go_at_call_of 135 (Value.slice ad r.days.length cd); exact Calls.regrown_of (K2.out _ (B1.out.trans ((below_regrown W _ _).mono B1.out.size))))
    | (go_at_call_of 135 (Value.slice ap r.pick.length cp); exact Calls.regrown_of (K4.out _ (B1.out.trans ((below_regrown W _ _).mono B1.out.size))))
    | (go_at_call 136; exact Calls.regrown_of (K3.out _ (B1.out.trans ((below_regrown W _ _).mono B1.out.size))))))
  refine wpQuiet_nil ?_
  intro _ hw'
  obtain ⟨⟨dq, osq⟩, hw''⟩ := hw'
  subst hw''
  have hB2 := B1.out.trans ((below_regrown W dq osq).mono B1.out.size)
  have S3 := A1.out.on (below_regrown W dq osq)
  clear r1 r2 r4 r5 r6 r7 q1 q2 q4 q5 q6 q7 R1 K1 K2 K3 K4 K5 K6
  generalize Sort.grow (redrawn W dq) osq = W3 at hB2 S3 ⊢
  refine wpList_store_new rfl _ _ _ rfl (w.heap.size + 1) #[.string (tb (unt r.every 1)), .string (tb (unt r.count 0)), .string (tb u), .string (tb (lt nt r.months)), .string (tb (lt nt r.days)), .string (tb (lt wt r.weeks)), .string (tb (lt nt r.pick))] rfl rfl S3.there (by kernel_rfl) (by simp [Value.oneCell']) hB2 (by omega) ?_
  clear S3 hB2 A1 B1 W3
  intro W4 R4 B4
  have r0 := R4 0 _ rfl
  have r1 := R4 1 _ rfl
  have r2 := R4 2 _ rfl
  have r3 := R4 3 _ rfl
  have r4 := R4 4 _ rfl
  have r5 := R4 5 _ rfl
  have r6 := R4 6 _ rfl
  simp only [Nat.zero_add] at r0 r1 r2 r3 r4 r5 r6
  clear R4
  go_wp2_with fail
  refine bodyPost_ret (v := .agg #[.string (tb (unt r.every 1)), .string (tb (unt r.count 0)), .string (tb u), .string (tb (lt nt r.months)), .string (tb (lt nt r.days)), .string (tb (lt wt r.weeks)), .string (tb (lt nt r.pick))]) (by simp [results, Tryz.results115, go_sem, r0, r1, r2, r3, r4, r5, r6]) rfl ⟨rfl, B4⟩
/-- What a rule's parts are as text. -/
def pt (r : Rl) (k : Nat) : List UInt8 := if k = 0 then unt r.every 1 else if k = 1 then unt r.count 0 else if k = 2 then dayt r.till else if k = 3 then lt nt r.months else if k = 4 then lt nt r.days else if k = 5 then lt wt r.weeks else lt nt r.pick
end Go.Proofs.YtpplfcfhjpfckaaGreatDoor
namespace Go.Proofs.YtpplfcfhjpfckaaGreatDoor
open Go.RowKit Cal Txt

/-- The words of frequencies and parts lie as their texts lay them. -/
def FrW (w : World) : Prop := ∀ k : Nat, k < 4 → w.cell? ⟨4, k, none⟩ = some (.string (tb (fq (k + 1))))
def PaW (w : World) : Prop := ∀ k : Nat, k < 7 → w.cell? ⟨5, k, none⟩ = some (.string (tb (kw k)))
theorem FrW.below {w w' : World} (h : FrW w) (b : Below w.heap.size w w') : FrW w' := fun k hk => (b.cell (p := ⟨4, k, none⟩) (cell_lt (h k hk))).trans (h k hk)
theorem PaW.below {w w' : World} (h : PaW w) (b : Below w.heap.size w w') : PaW w' := fun k hk => (b.cell (p := ⟨5, k, none⟩) (cell_lt (h k hk))).trans (h k hk)
theorem idx7 (r : Rl) (k : Nat) (h : k < 7) (W : World) : (Instr.index 156 (.agg #[.string (tb (unt r.every 1)), .string (tb (unt r.count 0)), .string (tb (dayt r.till)), .string (tb (lt nt r.months)), .string (tb (lt nt r.days)), .string (tb (lt wt r.weeks)), .string (tb (lt nt r.pick))]) (.int .i64 k)).run Tryz.prog W = .ok (.string (tb (pt r k))) W := by
  rcases seven h with rfl | rfl | rfl | rfl | rfl | rfl | rfl <;> kernel_rfl
/-- A rule's text, as far as so many parts. -/
def tk (r : Rl) : Nat → List UInt8
  | 0 => fq r.freq
  | k + 1 => tk r k ++ (if pt r k = [] then [] else 32 :: kw k ++ 32 :: pt r k)
theorem lt_nil {α : Type} (tx : α → List UInt8) (l : List α) (h : ∀ x ∈ l, tx x ≠ []) : lt tx l = [] ↔ l = [] := by
  cases l with
  | nil => simp [lt, joinBy]
  | cons a r =>
    constructor
    · intro e
      exfalso
      have ha := h a (by simp)
      unfold lt at e
      cases r with
      | nil => exact ha e
      | cons b r =>
        simp only [List.map_cons] at e
        rw [joinBy_cons _ _ (by simp)] at e
        have := congrArg List.length e
        simp at this
    · intro e; cases e
theorem wt_ne {x : Int × Int} (h1 : 1 ≤ x.2) (h7 : x.2 ≤ 7) : wt x ≠ [] := fun e => by
  have d := dn_len h1 h7
  have := congrArg List.length e
  unfold wt at this
  rw [List.length_append, d] at this
  simp at this
theorem part_pt (r : Rl) (hw : wkB r.weeks = true) (k : Nat) (hk : k < 7) : Txt.part k r = if pt r k = [] then [] else [kw k, pt r k] := by
  have e1 : ∀ n u : Int, unt n u = [] ↔ n = u := fun n u => by
    unfold unt
    by_cases h : n = u
    · simp [h]
    · simp [h, nt_ne]
  have e2 : ∀ n : Int, dayt n = [] ↔ n = 0 := fun n => by
    unfold dayt
    by_cases h : n = 0
    · simp [h]
    · simp only [h, if_false, iff_false]
      intro e
      have := congrArg List.length e
      unfold dt at this
      rw [dt3_len] at this
      simp at this
  have e3 : ∀ l : List Int, lt nt l = [] ↔ l = [] := fun l => lt_nil nt l (fun x _ => nt_ne x)
  have e4 : lt wt r.weeks = [] ↔ r.weeks = [] := lt_nil wt _ (fun x hx => by
    have := of_decide_eq_true (List.all_eq_true.1 hw x hx)
    exact wt_ne this.1 this.2.1)
  rcases seven hk with rfl | rfl | rfl | rfl | rfl | rfl | rfl
  · by_cases h : r.every = 1 <;> simp [Txt.part, pt, unt, h, nt_ne]
  · by_cases h : r.count = 0 <;> simp [Txt.part, pt, unt, h, nt_ne]
  · by_cases h : r.till = 0
    · simp [Txt.part, pt, dayt, h]
    · have := (not_congr (e2 r.till)).2 h
      simp only [Txt.part, pt]
      simp [h]
      simp [this]
      simp [dayt, h]
  · by_cases h : r.months = []
    · simp [Txt.part, pt, h, lt, joinBy]
    · simp [Txt.part, pt, h, (not_congr (e3 _)).2 h]
  · by_cases h : r.days = []
    · simp [Txt.part, pt, h, lt, joinBy]
    · simp [Txt.part, pt, h, (not_congr (e3 _)).2 h]
  · by_cases h : r.weeks = []
    · simp [Txt.part, pt, h, lt, joinBy]
    · simp [Txt.part, pt, h, (not_congr e4).2 h]
  · by_cases h : r.pick = []
    · simp [Txt.part, pt, h, lt, joinBy]
    · simp [Txt.part, pt, h, (not_congr (e3 _)).2 h]
/-- The words of the first so many parts. -/
def fsts (r : Rl) : Nat → List (List UInt8)
  | 0 => []
  | k + 1 => fsts r k ++ Txt.part k r
theorem fst_join (r : Rl) (hw : wkB r.weeks = true) : ∀ k, k ≤ 7 → joinBy 32 (fq r.freq :: fsts r k) = tk r k
  | 0, _ => rfl
  | k + 1, h => by
    have ih := fst_join r hw k (by omega)
    show joinBy 32 (fq r.freq :: (fsts r k ++ Txt.part k r)) = tk r k ++ _
    rw [part_pt r hw k (by omega)]
    by_cases e : pt r k = []
    · rw [if_pos e, if_pos e, List.append_nil, List.append_nil]; exact ih
    · rw [if_neg e, if_neg e, ← ih]
      have e1 : fq r.freq :: (fsts r k ++ [kw k, pt r k]) = (fq r.freq :: fsts r k) ++ [kw k] ++ [pt r k] := by simp
      rw [e1, join_snoc 32 _ _ (by simp), join_snoc 32 _ _ (by simp)]
      simp
theorem fst_parts (r : Rl) : fsts r 7 = parts 7 r := by
  show (((((([] ++ Txt.part 0 r) ++ Txt.part 1 r) ++ Txt.part 2 r) ++ Txt.part 3 r) ++ Txt.part 4 r) ++ Txt.part 5 r) ++ Txt.part 6 r = Txt.part 0 r ++ (Txt.part 1 r ++ (Txt.part 2 r ++ (Txt.part 3 r ++ (Txt.part 4 r ++ (Txt.part 5 r ++ (Txt.part 6 r ++ []))))))
  simp
theorem tk_rt (r : Rl) (hw : wkB r.weeks = true) : tk r 7 = rt r := by
  rw [← fst_join r hw 7 (by decide), fst_parts]; rfl
end Go.Proofs.YtpplfcfhjpfckaaGreatDoor
namespace Go.Proofs.YtpplfcfhjpfckaaGreatDoor
open Go.RowKit Cal Txt

theorem fault_zero {k : Int} (h : k = 0) : fault k = .nilIface := if_pos h
theorem fault_some {k : Int} (h : ¬ k = 0) : fault k = .iface 45 (.int .i64 k) := if_neg h
theorem join_len' (xs : List (List UInt8)) (k n : Nat) (h : ∀ x ∈ xs, x.length ≤ k) (hn : xs.length ≤ n) : (joinBy 44 xs).length ≤ n * (k + 1) :=
  Nat.le_trans (join_len 44 k xs h) (Nat.mul_le_mul_right _ hn)
/-- Of a rule with nothing wrong each part is short. -/
theorem pt_len {r : Rl} (h1 : ok1 r = true) (h2 : ok2 r = true) (h3 : itemsB r = true) (k : Nat) : (pt r k).length ≤ 5000 := by
  obtain ⟨l1, l2, l3, l4⟩ := ok2_yes h2
  obtain ⟨⟨⟨g1, g2⟩, g3⟩, g4⟩ : ((r.months.all monP = true ∧ r.days.all plaP = true) ∧ r.weeks.all wkP = true) ∧ r.pick.all plaP = true := by simpa [itemsB] using h3
  obtain ⟨⟨a1, a2⟩, ⟨b1, b2⟩, ⟨c1, c2⟩, d1, d2'⟩ := of_decide_eq_true h1
  have u1 : ∀ n u : Int, -999999999 ≤ n → n ≤ 999999999 → (unt n u).length ≤ 10 := fun n u h0 h1 => by
    unfold unt; split
    · simp
    · exact nt_len n h0 h1
  have u2 : (dayt r.till).length ≤ 10 := by
    unfold dayt; split
    · simp
    · unfold dt; rw [dt3_len]; omega
  have v1 : ∀ (l : List Int), (∀ x ∈ l, -999999999 ≤ x ∧ x ≤ 999999999) → l.length ≤ 40 → (lt nt l).length ≤ 5000 := fun l h hl => by
    have := join_len' (l.map nt) 30 40 (fun x hx => by obtain ⟨y, hy, rfl⟩ := List.mem_map.1 hx; have := h y hy; have := nt_len y (by omega) (by omega); omega) (by rw [List.length_map]; exact hl)
    unfold lt; omega
  have v2 : (lt wt r.weeks).length ≤ 5000 := by
    have := join_len' (r.weeks.map wt) 30 40 (fun x hx => by obtain ⟨y, hy, rfl⟩ := List.mem_map.1 hx; have := of_decide_eq_true (List.all_eq_true.1 g3 y hy); exact wt_len y this.1 this.2.1 (by omega) (by omega)) (by rw [List.length_map]; omega)
    unfold lt; omega
  unfold pt
  split
  · have := u1 r.every 1 (by omega) (by omega); omega
  split
  · have := u1 r.count 0 (by omega) (by omega); omega
  split
  · omega
  split
  · exact v1 _ (fun x hx => by have := of_decide_eq_true (List.all_eq_true.1 g1 x hx); omega) (by omega)
  split
  · exact v1 _ (fun x hx => by have := of_decide_eq_true (List.all_eq_true.1 g2 x hx); omega) (by omega)
  split
  · exact v2
  · exact v1 _ (fun x hx => by have := of_decide_eq_true (List.all_eq_true.1 g4 x hx); omega) (by omega)
theorem kw_len (k : Nat) : (kw k).length ≤ 6 := by
  unfold kw
  repeat (split; decide)
  decide
theorem fq_len (k : Int) : (fq k).length ≤ 7 := by
  unfold fq
  repeat (split; decide)
  decide
theorem tk_len {r : Rl} (h1 : ok1 r = true) (h2 : ok2 r = true) (h3 : itemsB r = true) : ∀ k, (tk r k).length ≤ 7 + k * 5010
  | 0 => by show (fq r.freq).length ≤ _; have := fq_len r.freq; omega
  | k + 1 => by
    have ih := tk_len h1 h2 h3 k
    generalize hz : 7 + (k + 1) * 5010 = z
    have a := pt_len h1 h2 h3 k
    have b := kw_len k
    show (tk r k ++ _).length ≤ _
    rw [List.length_append]
    split
    · rw [List.length_nil]; omega
    · rw [List.length_append, List.length_cons, List.length_cons]; omega
theorem tk_next {r : Rl} {k : Nat} (h : ¬ pt r k = []) : tb (tk r k) ++ ((⟨#[32]⟩ : ByteArray) ++ tb (kw k) ++ ⟨#[32]⟩ ++ tb (pt r k)) = tb (tk r (k + 1)) := by
  show _ = tb (tk r k ++ _)
  rw [if_neg h, show (⟨#[32]⟩ : ByteArray) = tb [32] from rfl, ← tb_app, ← tb_app, ← tb_app, ← tb_app]
  simp
theorem tk_same {r : Rl} {k : Nat} (h : pt r k = []) : tk r (k + 1) = tk r k := by
  show tk r k ++ _ = _
  rw [if_pos h, List.append_nil]
theorem rf_good {r : Rl} (h : rf r = 0) : ok1 r = true ∧ ¬ (¬ r.count = 0 ∧ ¬ r.till = 0) ∧ ok2 r = true ∧ itemsB r = true ∧ ok4 r = true ∧ oddB r = false := by
  rcases e1 : ok1 r with _ | _
  · rw [rf_1 e1] at h; cases h
  by_cases e2 : ¬ r.count = 0 ∧ ¬ r.till = 0
  · rw [rf_3 e1 e2] at h; cases h
  rcases e3 : ok2 r with _ | _
  · rw [rf_4 e1 e2 e3] at h; cases h
  rcases e4 : itemsB r with _ | _
  · rw [rf_5 e1 e2 e3 e4] at h; cases h
  rcases e5 : ok4 r with _ | _
  · rw [rf_7 e1 e2 e3 e4 e5] at h; cases h
  rcases e6 : oddB r with _ | _
  · exact ⟨rfl, e2, rfl, rfl, rfl, rfl⟩
  · rw [rf_8 e1 e2 e3 e4 e5 e6] at h; cases h
set_option maxRecDepth 100000 in
set_option maxHeartbeats 4000000 in
theorem print_bad (r : Rl) (am ad aw ap : Option Addr) (cm cd cw cp : Nat) (w : World) (hm : Ints w (.slice am r.months.length cm) r.months) (hd : Ints w (.slice ad r.days.length cd) r.days) (hw : Nths w (.slice aw r.weeks.length cw) r.weeks) (hp : Ints w (.slice ap r.pick.length cp) r.pick) (h : ¬ rf r = 0) :
    Calls Tryz.prog 86 #[.agg #[.int .i64 r.freq, .int .i64 r.every, .int .i64 r.count, .int .i64 r.till, .slice am r.months.length cm, .slice ad r.days.length cd, .slice aw r.weeks.length cw, .slice ap r.pick.length cp]] w fun e w' => e = .returned (.tuple #[.string ⟨#[]⟩, .iface 45 (.int .i64 (rf r))]) ∧ Below w.heap.size w w' := by
  have B0 : Below w.heap.size w (w.alloc (.cells #[.int .i64 r.freq, .int .i64 r.every, .int .i64 r.count, .int .i64 r.till, .slice am r.months.length cm, .slice ad r.days.length cd, .slice aw r.weeks.length cw, .slice ap r.pick.length cp] 25)) := (Below.refl _ _).alloc (Nat.le_refl _) _
  have HB := Lib.hid B0
  have HC := Lib.hid (check_walk r am ad aw ap cm cd cw cp _ (hm.on B0) (hd.on B0) (hw.on B0) (hp.on B0))
  have HF := Lib.hid (fault_some h)
  clear B0 hm hd hw hp h
  go_enter Tryz.func86, Tryz.ntmps86
  go_wp2_with fail
  refine HC.out.mono ?_
  rintro e w1 ⟨rfl, hx⟩
  have HB1 := Lib.hid (HB.out.trans (hx.mono HB.out.size))
  rw [HF.out]
  clear hx HB HC HF
  go_wp2
  go_ret2
  exact ⟨rfl, HB1.out⟩
set_option maxRecDepth 100000 in
set_option maxHeartbeats 4000000 in
theorem print_good (r : Rl) (am ad aw ap : Option Addr) (cm cd cw cp : Nat) (w : World) (hm : Ints w (.slice am r.months.length cm) r.months) (hd : Ints w (.slice ad r.days.length cd) r.days) (hw : Nths w (.slice aw r.weeks.length cw) r.weeks) (hp : Ints w (.slice ap r.pick.length cp) r.pick) (h : rf r = 0)
    (hT : Tab w) (hP : Pow w) (hF : FrW w) (hA : PaW w) (hW : WdW w) :
    Calls Tryz.prog 86 #[.agg #[.int .i64 r.freq, .int .i64 r.every, .int .i64 r.count, .int .i64 r.till, .slice am r.months.length cm, .slice ad r.days.length cd, .slice aw r.weeks.length cw, .slice ap r.pick.length cp]] w fun e w' => e = .returned (.tuple #[.string (tb (rt r)), .nilIface]) ∧ Below w.heap.size w w' := by
  obtain ⟨o1, o2, o3, o4, o5, o6⟩ := rf_good h
  have hwk : wkB r.weeks = true := by rw [itemsB_eq] at o4; simp at o4; exact o4.2
  have TK := Lib.hid (tk_rt r hwk)
  have TL := Lib.hid (tk_len o1 o3 o4)
  have PL := Lib.hid (pt_len o1 o3 o4)
  obtain ⟨⟨a1, a2⟩, ⟨b1, b2⟩, ⟨c1, c2⟩, d1, d2'⟩ := of_decide_eq_true o1
  have B0 : Below w.heap.size w (w.alloc (.cells #[.int .i64 r.freq, .int .i64 r.every, .int .i64 r.count, .int .i64 r.till, .slice am r.months.length cm, .slice ad r.days.length cd, .slice aw r.weeks.length cw, .slice ap r.pick.length cp] 25)) := (Below.refl _ _).alloc (Nat.le_refl _) _
  have HB := Lib.hid B0
  have HR := Lib.hid (RBox.new w r.freq r.every r.count r.till (.slice am r.months.length cm) (.slice ad r.days.length cd) (.slice aw r.weeks.length cw) (.slice ap r.pick.length cp) 25)
  have HC := Lib.hid (check_walk r am ad aw ap cm cd cw cp _ (hm.on B0) (hd.on B0) (hw.on B0) (hp.on B0))
  have HF := Lib.hid (fault_zero h)
  have KD : Hid (∀ W, Below w.heap.size w W → Calls Tryz.prog 114 #[.int .i64 r.till] W fun e w' => e = .returned (.tuple #[.string (tb (dayt r.till)), .nilIface]) ∧ Below W.heap.size W w') := Lib.hid (fun W hb => printDay_any r.till W (hT.below hb) (hP.below hb) d1 d2')
  have KP : Hid (∀ W, Below w.heap.size w W → Calls Tryz.prog 115 #[.agg #[.int .i64 r.freq, .int .i64 r.every, .int .i64 r.count, .int .i64 r.till, .slice am r.months.length cm, .slice ad r.days.length cd, .slice aw r.weeks.length cw, .slice ap r.pick.length cp], .string (tb (dayt r.till))] W fun e w' => e = .returned (.agg #[.string (tb (unt r.every 1)), .string (tb (unt r.count 0)), .string (tb (dayt r.till)), .string (tb (lt nt r.months)), .string (tb (lt nt r.days)), .string (tb (lt wt r.weeks)), .string (tb (lt nt r.pick))]) ∧ Below W.heap.size W w') := Lib.hid (fun W hb => printParts_walk r am ad aw ap cm cd cw cp (dayt r.till) W (hm.on hb) (hd.on hb) (hw.on hb) (hp.on hb) (hP.below hb) (hW.below hb) o1 o3 o4)
  have HFr : Hid (∀ W, Below w.heap.size w W → W.cell? ⟨4, r.freq.toNat - 1, none⟩ = some (.string (tb (fq r.freq)))) := Lib.hid (fun W hb => by
    have := (hF.below hb) (r.freq.toNat - 1) (by omega)
    rwa [show ((r.freq.toNat - 1 : Nat) : Int) + 1 = r.freq by omega] at this)
  have HPa : Hid (∀ W, Below w.heap.size w W → ∀ k, k < 7 → W.cell? ⟨5, k, none⟩ = some (.string (tb (kw k)))) := Lib.hid (fun W hb => hA.below hb)
  clear B0 hm hd hw hp h hT hP hF hA hW o1 o2 o3 o4 o5 o6 hwk b1 b2 c1 c2 d1 d2'
  go_enter Tryz.func86, Tryz.ntmps86
  go_wp2_with fail
  refine HC.out.mono ?_
  rintro e w1 ⟨rfl, hx⟩
  have HB1 := Lib.hid (HB.out.trans (hx.mono HB.out.size))
  have HR1 := Lib.hid (HR.out.on hx)
  rw [HF.out]
  clear hx HB HC HF HR
  obtain ⟨R0, R1, R2, R3, R4, R5, R6, R7⟩ := id HR1.out
  go_wp2_with fail
  clear R0 R1 R2 R3 R4 R5 R6 R7
  refine (KD.out _ HB1.out).mono ?_
  rintro e w2 ⟨rfl, hx⟩
  have HB2 := Lib.hid (HB1.out.trans (hx.mono HB1.out.size))
  have HR2 := Lib.hid (HR1.out.on hx)
  clear hx HB1 HR1 KD
  obtain ⟨R0, R1, R2, R3, R4, R5, R6, R7⟩ := id HR2.out
  have fr := HFr.out _ HB2.out
  have i1 : (0 : Int) ≤ r.freq - 1 := by omega
  have i2 : r.freq - 1 < 4 := by omega
  go_wp2_with fail
  clear R0 R1 R2 R3 R4 R5 R6 R7 fr i1 i2
  refine (KP.out _ HB2.out).mono ?_
  rintro e w3 ⟨rfl, hx⟩
  have HB3 := Lib.hid (HB2.out.trans (hx.mono HB2.out.size))
  clear hx HB2 HR2 KP
  go_wp2
  go_loop [7, 8, 9, 32] (fun s _ _ i => ∃ k : Nat, k ≤ 7 ∧ i = .int .i64 k ∧ s = .string (tb (tk r k))) (fun _ _ _ i => 7 - (intOf i).toNat)
  case atStart => exact ⟨0, by omega, rfl, rfl⟩
  case round =>
    obtain ⟨k, hk, rfl, rfl⟩ := hrel
    by_cases hlt : k < 7
    · have ix := idx7 r k hlt
      have pc := HPa.out _ HB3.out k hlt
      have k7 : (k : Int) < 7 := by omega
      by_cases hp : pt r k = []
      · have e1 : (tb (pt r k)).toList.isEmpty = true := by rw [Lib.toList_data, tb_data, hp]; rfl
        have N1 := Lib.hid (tk_same hp)
        clear hp
        go_wp2
        go_round
        case rel => exact ⟨k + 1, by omega, by go_num, by rw [N1.out]⟩
        case measure => simp [intOf]; omega
      · have e1 : (tb (pt r k)).toList.isEmpty = false := by rw [Lib.toList_data, tb_data]; simpa using hp
        have N1 := Lib.hid (tk_next hp)
        have s1 : (tb (kw k)).size ≤ 6 := by rw [tb_size]; exact kw_len k
        have s2 : (tb (pt r k)).size ≤ 5000 := by rw [tb_size]; exact PL.out k
        have s3 : (tb (tk r k)).size ≤ 40000 := by rw [tb_size]; have := TL.out k; omega
        have f1 : ¬ 9223372036854775807 < 1 + (tb (kw k)).size := by omega
        have f2 : ¬ 9223372036854775807 < 1 + (tb (kw k)).size + 1 := by omega
        have f3 : ¬ 9223372036854775807 < 1 + (tb (kw k)).size + 1 + (tb (pt r k)).size := by omega
        have f4 : ¬ 9223372036854775807 < (tb (tk r k)).size + (1 + (tb (kw k)).size + 1 + (tb (pt r k)).size) := by omega
        clear hp s1 s2 s3
        go_wp2
        go_round
        case rel => exact ⟨k + 1, by omega, by go_num, by rw [← N1.out]⟩
        case measure => simp [intOf]; omega
    · obtain rfl : k = 7 := by omega
      go_wp2
      go_ret2
      exact ⟨ret_strNil2 (by rw [TK.out]), HB3.out⟩
/-- Print, of any rule in memory. -/
theorem rprint_any (r : Rl) (v : Value) (w : World) (hv : RuleIn w v r) (hT : Tab w) (hP : Pow w) (hF : FrW w) (hA : PaW w) (hW : WdW w) :
    Calls Tryz.prog 86 #[v] w fun e w' => e = .returned (.tuple #[.string (tb (if rf r = 0 then rt r else [])), fault (rf r)]) ∧ Below w.heap.size w w' := by
  obtain ⟨vm, vd, vw, vp, rfl, hm, hd, hw, hp⟩ := hv
  obtain ⟨am, cm, rfl, x1⟩ := id hm
  obtain ⟨ad, cd, rfl, x2⟩ := id hd
  obtain ⟨aw, cw, rfl, x3⟩ := id hw
  obtain ⟨ap, cp, rfl, x4⟩ := id hp
  by_cases h : rf r = 0
  · rw [if_pos h, fault_zero h]
    exact print_good r am ad aw ap cm cd cw cp w hm hd hw hp h hT hP hF hA hW
  · rw [if_neg h, fault_some h]
    exact print_bad r am ad aw ap cm cd cw cp w hm hd hw hp h
end Go.Proofs.YtpplfcfhjpfckaaGreatDoor
