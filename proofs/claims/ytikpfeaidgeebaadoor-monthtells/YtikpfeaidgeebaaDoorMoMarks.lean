/-
  What is proved here: what package month's Marks answers (contracts over the translation); the table of months is asked as a premise.
-/
import Derived.Test.YtikpfeaidgeebaaDoorMoMk
namespace Go.Proofs.YtikpfeaidgeebaaDoor.Mo
open Go.RowKit Cal Txt

theorem below_new (w : World) (o : Obj) : Below w.heap.size w (w.alloc o) := (Below.refl _ _).alloc (Nat.le_refl _) _
/-- The fault of a list of days. -/
def mfl (F T : Int) (l : List Int) : Int := if 100 < l.length then 4 else if l.all (inM F T) = false then 1 else if risB l = false then 7 else 0
theorem marks_no (y m : Int) (a : Option Addr) (n c : Nat) (w : World) (h : ¬ isM y m) :
    Calls Tryd.prog 13 #[.int .i64 y, .int .i64 m, .slice a n c] w fun e w' => e = .returned (.tuple #[.slice none 0 0, errRange]) ∧ Below w.heap.size w w' := by
  have K1 : Hid (∀ W, _) := Lib.hid (fun W => ends_no y m W h)
  clear h
  go_enter Tryd.func13, Tryd.ntmps13
  go_wp2_with fail
  refine (K1.out _).mono ?_
  rintro e w1 ⟨rfl, hb⟩
  have B1 := Lib.hid ((below_new w _).trans (hb.mono (below_new w _).size))
  clear hb
  go_upto_region 2 with fail
  go_wp2
  go_ret2
  exact ⟨rfl, (B1.out.alloc B1.out.size _).alloc (by have := B1.out.size; rw [asize]; omega) _⟩
theorem mfl_long {F T : Int} {l : List Int} (h : 100 < l.length) : mfl F T l = 4 := if_pos h
theorem mfl_out {F T : Int} {l : List Int} (h : ¬ 100 < l.length) (h2 : l.all (inM F T) = false) : mfl F T l = 1 := by unfold mfl; rw [if_neg h, if_pos h2]
theorem mfl_ris {F T : Int} {l : List Int} (h : ¬ 100 < l.length) (h2 : l.all (inM F T) = true) (h3 : risB l = false) : mfl F T l = 7 := by unfold mfl; rw [if_neg h, if_neg (by rw [h2]; decide), if_pos h3]
theorem mfl_good {F T : Int} {l : List Int} (h : ¬ 100 < l.length) (h2 : l.all (inM F T) = true) (h3 : risB l = true) : mfl F T l = 0 := by unfold mfl; rw [if_neg h, if_neg (by rw [h2]; decide), if_neg (by rw [h3]; decide)]
/-- What is answered of a month and days. -/
def MkA (y m : Int) (l : List Int) (e : Ending) (w' : World) : Prop :=
  (mfl (fst y m) (lst y m) l = 0 ∧ ∃ v, e = .returned (.tuple #[v, .nilIface]) ∧ Txs w' v (lfM y m (mk l))) ∨
  (¬ mfl (fst y m) (lst y m) l = 0 ∧ e = .returned (.tuple #[.slice none 0 0, .iface 53 (.int .i64 (mfl (fst y m) (lst y m) l))]))
set_option maxRecDepth 100000 in
set_option maxHeartbeats 2000000 in
theorem marks_yes (y m : Int) (v : Value) (l : List Int) (w : World) (hT : Tab w) (h : isM y m) (hv : Ints w v l) :
    Calls Tryd.prog 13 #[.int .i64 y, .int .i64 m, v] w fun e w' => MkA y m l e w' ∧ Below w.heap.size w w' := by
  have HV := Lib.hid hv
  obtain ⟨a, c, rfl, _⟩ := hv
  have eg1 : ∀ args w, (callFunc 29 args).run Tryd.prog w = .ok (.enter 29 args) w := enters_of Tryd.func29 (by kernel_rfl) rfl
  have eg3 : ∀ args w, (callFunc 32 args).run Tryd.prog w = .ok (.enter 32 args) w := enters_of Tryd.func32 (by kernel_rfl) rfl
  have b := ends_bd h
  have K1 : Hid (∀ W, Below w.heap.size w W → _) := Lib.hid (fun W (hW : Below w.heap.size w W) => ends_yes y m W (hT.below hW) h)
  have KA : Hid (∀ b1 b2 W, Nb W b1 (fst y m) → Nb W b2 (lst y m) → Ints W (.slice a l.length c) l → ¬ 100 < l.length → Calls Tryd.prog 28 #[.slice a l.length c, .func (.func 29) #[] #[.pointer (some ⟨b1, 0, none⟩), .pointer (some ⟨b2, 0, none⟩)]] W fun e w' => e = .returned (.bool (l.all (inM (fst y m) (lst y m)))) ∧ w' = W) :=
    Lib.hid (fun b1 b2 W h1 h2 hl hn => all_two _ b1 b2 (inM (fst y m) (lst y m)) eg1 _ l W (fun n => in_any _ _ n b1 b2 W h1 h2) hl (by omega))
  have KL : Hid (∀ d W, W.cell? ⟨d, 0, none⟩ = some (.slice a l.length c) → Ints W (.slice a l.length c) l → ¬ 100 < l.length → Calls Tryd.prog 24 #[.int .i64 (fst y m), .int .i64 (lst y m), .func (.func 32) #[] #[.pointer (some ⟨d, 0, none⟩)]] W fun e w' => (∃ v, e = .returned (.tuple #[v, .nilIface]) ∧ Txs w' v (lfM y m (mk l))) ∧ Below W.heap.size W w') :=
    Lib.hid (fun d W hd hl hn => leaf1_any _ d (mk l) _ _ W eg3 (fun n _ _ W' hW => has_any l _ d n W' ((hW.cell (p := ⟨d, 0, none⟩) (cin hd)).trans hd) (hl.on hW) (by omega)) b.1 b.2.1 b.2.2.1 b.2.2.2)
  unfold MkA
  clear eg1 eg3 hT h
  generalize lfM y m (mk l) = LF at KL ⊢
  generalize fst y m = F at b K1 KA KL ⊢
  generalize lst y m = T at b K1 KA KL ⊢
  clear b
  go_enter Tryd.func13, Tryd.ntmps13
  go_wp2_with fail
  refine (K1.out _ (below_new w _)).mono ?_
  rintro e w1 ⟨rfl, hb⟩
  have B1 := Lib.hid ((below_new w (.cells #[.slice a l.length c] 22)).trans (hb.mono (below_new w _).size))
  have d0 := (hb.cell (p := ⟨w.heap.size, 0, none⟩) (by show w.heap.size < (w.alloc _).heap.size; rw [asize]; omega)).trans (cnew w (.slice a l.length c) 22)
  clear hb K1
  go_upto_region 2 with fail
  have B4 := (B1.out.alloc B1.out.size (.cells #[.int .i64 F] 3)).alloc (by have := B1.out.size; rw [asize]; omega) (.cells #[.int .i64 T] 3)
  have q1 : Nb ((w1.alloc (.cells #[.int .i64 F] 3)).alloc (.cells #[.int .i64 T] 3)) w1.heap.size F := cnext (cnew w1 (.int .i64 F) 3) _
  have q2 : Nb ((w1.alloc (.cells #[.int .i64 F] 3)).alloc (.cells #[.int .i64 T] 3)) (w1.heap.size + 1) T := by
    have := cnew (w1.alloc (.cells #[.int .i64 F] 3)) (.int .i64 T) 3
    rw [asize] at this
    exact this
  have q0 := cnext (cnext d0 (.cells #[.int .i64 F] 3)) (.cells #[.int .i64 T] 3)
  obtain ⟨W4, hW4⟩ : ∃ W4, W4 = (w1.alloc (.cells #[.int .i64 F] 3)).alloc (.cells #[.int .i64 T] 3) := ⟨_, rfl⟩
  rw [← hW4] at B4 q0 q1 q2 ⊢
  have HI := Lib.hid (HV.out.on B4)
  have HB4 := Lib.hid B4
  have HQ1 := Lib.hid q1
  have HQ2 := Lib.hid q2
  have l0 := cin q0
  unfold Nb at q1 q2
  have l1 := cin q1
  have l2 := cin q2
  clear hW4 B4 d0 B1 HV
  by_cases n1 : 100 < l.length
  · have N := Lib.hid (mfl_long (F := F) (T := T) n1)
    go_wp2
    go_ret2
    exact ⟨Or.inr ⟨by rw [N.out]; decide, by rw [N.out]; rfl⟩, HB4.out⟩
  have KA2 := Lib.hid (KA.out _ _ W4 HQ1.out HQ2.out HI.out n1)
  rcases ha : l.all (inM F T) with _ | _
  · have N := Lib.hid (mfl_out (F := F) (T := T) n1 ha)
    rw [ha] at KA2
    clear ha KA
    go_wp2_with fail
    refine KA2.out.mono ?_
    rintro e w5 ⟨rfl, hw⟩
    replace hw := hw.symm
    subst hw
    go_wp2
    go_ret2
    exact ⟨Or.inr ⟨by rw [N.out]; decide, by rw [N.out]; rfl⟩, HB4.out⟩
  rw [ha] at KA2
  have KR := Lib.hid (rises_int _ l W4 HI.out (by omega))
  rcases hr : risB l with _ | _
  · have N := Lib.hid (mfl_ris (F := F) (T := T) n1 ha hr)
    rw [hr] at KR
    clear ha KA hr
    go_wp2_with fail
    refine KA2.out.mono ?_
    rintro e w5 ⟨rfl, hw⟩
    replace hw := hw.symm
    subst hw
    go_wp2_with fail
    refine KR.out.mono ?_
    rintro e w5 ⟨rfl, hb⟩
    have B5 := Lib.hid (HB4.out.trans (hb.mono HB4.out.size))
    clear hb
    go_wp2
    go_ret2
    exact ⟨Or.inr ⟨by rw [N.out]; decide, by rw [N.out]; rfl⟩, B5.out⟩
  · have N := Lib.hid (mfl_good (F := F) (T := T) n1 ha hr)
    rw [hr] at KR
    clear ha KA hr
    go_wp2_with fail
    refine KA2.out.mono ?_
    rintro e w5 ⟨rfl, hw⟩
    replace hw := hw.symm
    subst hw
    go_wp2_with fail
    refine KR.out.mono ?_
    rintro e w5 ⟨rfl, hb⟩
    have B5 := Lib.hid (HB4.out.trans (hb.mono HB4.out.size))
    have r1 := (hb.cell (p := ⟨w1.heap.size, 0, none⟩) l1).trans q1
    have r2 := (hb.cell (p := ⟨w1.heap.size + 1, 0, none⟩) l2).trans q2
    have r0 := (hb.cell (p := ⟨w.heap.size, 0, none⟩) l0).trans q0
    have s1 := cin r1
    have s2 := cin r2
    have K6 := Lib.hid (KL.out _ w5 r0 (HI.out.on hb) n1)
    clear hb KR KA2 KL
    go_wp2_with fail
    refine K6.out.mono ?_
    rintro e w6 ⟨⟨v, rfl, hx⟩, hb⟩
    have B6 := Lib.hid (B5.out.trans (hb.mono B5.out.size))
    have HX := Lib.hid hx
    clear hb hx
    go_wp2
    go_ret2
    exact ⟨Or.inl ⟨N.out, v, rfl, HX.out⟩, B6.out⟩
end Go.Proofs.YtikpfeaidgeebaaDoor.Mo
