/-
  What is proved here: what event.ofStart answers of an event that does not repeat, and what event.Local answers of any, out of what ofStart answers (contracts over the translation).
-/
import Derived.Test.YtdiijpjfkgnjkadGreatDoorBW
import Derived.Test.YtdiijpjfkgnjkadGreatDoorBO
namespace Go.Proofs.YtdiijpjfkgnjkadGreatDoor
open Go.RowKit Cal Txt

theorem of_new (w : World) (n0 : Nat) (st : Int) (hn : n0 ≤ w.heap.size) : (w.alloc (.cells #[.int .i64 st] 3)).ownsRow n0 3 1 (.slice (some ⟨w.heap.size, 0, none⟩) 1 1) 1 (nums [st]) := by
  exact ⟨rfl, Or.inr ⟨w.heap.size, 1, #[.int .i64 st], rfl, hn, heap_alloc_new w _, Nat.le_refl _, by unfold maxLen; decide, rfl, rfl⟩⟩
set_option maxHeartbeats 1000000 in
theorem ofStart_once (e : Evt) (s : Evs) (fr t : Int) (w : World) (hr : e.rep = false) :
    Calls Tryz.prog 54 #[.agg (ecells e s), .int .i64 fr, .int .i64 t] w (OfA w.heap.size w [e.start]) := by
  obtain ⟨nm, tx, st, ln, rp, ru, mo, no, ch, al⟩ := e
  obtain ⟨vm, vd, vw, vp, vo, vn, vc, va⟩ := s
  dsimp only at hr
  subst hr
  have HB := Lib.hid ((Below.refl w.heap.size w).alloc (Nat.le_refl _) (.cells #[.string nm, .string tx, .int .i64 st, .int .i64 ln, .bool false, .int .i64 ru.freq, .int .i64 ru.every, .int .i64 ru.count, .int .i64 ru.till, vm, vd, vw, vp, vo, vn, vc, va] 29))
  dsimp only [ecells]
  go_enter Tryz.func54, Tryz.ntmps54
  go_wp2
  go_ret2
  refine ⟨.slice (some ⟨w.heap.size + 1, 0, none⟩) 1 1, rfl, ?_, HB.out.alloc HB.out.size _⟩
  have k := of_new (w.alloc (.cells #[.string nm, .string tx, .int .i64 st, .int .i64 ln, .bool false, .int .i64 ru.freq, .int .i64 ru.every, .int .i64 ru.count, .int .i64 ru.till, vm, vd, vw, vp, vo, vn, vc, va] 29)) w.heap.size st HB.out.size
  rw [World.size_alloc] at k
  exact k
/-- Are two numbers the ends of a stretch? -/
def strB (fr t : Int) : Bool := ((ist fr && ist t) && decide (fr ≤ t)) && decide (t - fr ≤ 1000000)
/-- What is wrong with an event and a stretch, or with how many times there are. -/
def lcF (l : List Int) (e : Evt) (fr t : Int) : Int := if ¬ evF e = 0 then evF e else if strB fr t = false then 1 else if 200 < (evL l e fr t).length then 4 else 0
/-- The times that are told. -/
def lcL (l : List Int) (e : Evt) (fr t : Int) : List Int := if lcF l e fr t = 0 then evL l e fr t else []
/-- What is told. -/
def TolA (w : World) (l : List Int) (f : Int) (x : Ending) (w' : World) : Prop := ∃ v, x = .returned (.tuple #[v, fault f]) ∧ Wr w.heap.size w' v l ∧ Below w.heap.size w w'
theorem Wr.nil (n0 : Nat) (w : World) : Wr n0 w (.slice none 0 0) [] := World.ownsRow_nil _ _ _ _
theorem evF_lens {e : Evt} (h : evF e = 0) : (risB e.nots = true ∧ e.nots.length ≤ 100 ∧ e.more.length ≤ 100) ∧ ruF e = 0 ∧ ist e.start = true ∧ (e.more.all ist = true ∧ e.nots.all ist = true ∧ risB e.more = true) ∧ e.chg.length ≤ 100 ∧ 0 ≤ e.len ∧ e.len ≤ 100000 := by
  unfold evF at h
  split at h
  · cases h
  split at h
  · cases h
  split at h
  · rename_i q; exact absurd h q
  split at h
  · rename_i q; exact absurd h q
  rename_i q1 q2 q3
  have h3 : ruF e = 0 := Decidable.byContradiction q2
  have h4 : liF e = 0 := Decidable.byContradiction q3
  have h5 : (ist e.start && decide (0 ≤ e.len ∧ e.len ≤ 100000)) = true := by simpa using q1
  unfold liF at h4
  split at h4
  · cases h4
  split at h4
  · cases h4
  split at h4
  · cases h4
  rename_i z1 z2 z3
  have y1 := of_decide_eq_false (by simpa [full] using z1 : full e = false)
  have y2 : (e.more.all ist && e.nots.all ist && e.chg.all chB) = true := by revert z2; cases (e.more.all ist && e.nots.all ist && e.chg.all chB) <;> simp
  have y3 : (risB e.more && risB e.nots && criB e.chg) = true := by revert z3; cases (risB e.more && risB e.nots && criB e.chg) <;> simp
  rw [Bool.and_eq_true, Bool.and_eq_true] at y2 y3
  rw [Bool.and_eq_true] at h5
  have h6 := of_decide_eq_true h5.2
  exact ⟨⟨y3.1.2, by omega, by omega⟩, h3, h5.1, ⟨y2.1.1, y2.1.2, y3.1.1⟩, by omega, h6.1, h6.2⟩
theorem lcF_ev {l : List Int} {e : Evt} {fr t : Int} (h : ¬ evF e = 0) : lcF l e fr t = evF e := if_pos h
theorem lcF_str {l : List Int} {e : Evt} {fr t : Int} (h : evF e = 0) (k : strB fr t = false) : lcF l e fr t = 1 := by unfold lcF; rw [if_neg (fun q => q h), if_pos k]
theorem lcF_len {l : List Int} {e : Evt} {fr t : Int} (h : evF e = 0) (k : strB fr t = true) : lcF l e fr t = if 200 < (evL l e fr t).length then 4 else 0 := by unfold lcF; rw [if_neg (fun q => q h), if_neg (by rw [k]; decide)]
theorem lcL_no {l : List Int} {e : Evt} {fr t : Int} (h : ¬ lcF l e fr t = 0) : lcL l e fr t = [] := if_neg h
theorem lcL_yes {l : List Int} {e : Evt} {fr t : Int} (h : lcF l e fr t = 0) : lcL l e fr t = evL l e fr t := if_pos h
theorem strB_ends {fr t : Int} (h : strB fr t = true) : (1 ≤ fr ∧ t ≤ 157785119) ∧ fr ≤ t ∧ t - fr ≤ 1000000 := by
  unfold strB ist at h
  simp at h
  omega
set_option maxRecDepth 100000 in
set_option maxHeartbeats 4000000 in
theorem local_of (e : Evt) (s : Evs) (fr t : Int) (l : List Int) (w : World) (hv : EvB w e s) (hl : l.length ≤ 200000)
    (hK : evF e = 0 → strB fr t = true → ∀ W, Below w.heap.size w W → Calls Tryz.prog 54 #[.agg (ecells e s), .int .i64 fr, .int .i64 t] W (OfA W.heap.size W l)) :
    Calls Tryz.prog 12 #[.agg (ecells e s), .int .i64 fr, .int .i64 t] w (TolA w (lcL l e fr t) (lcF l e fr t)) := by
  have B0 := (Below.refl w.heap.size w).alloc (Nat.le_refl _) (.cells (ecells e s) 29)
  have R0 := Lib.hid (EBox.new w e s 29)
  have HB0 := Lib.hid B0
  have KC := Lib.hid (echeck_any e s _ (hv.on B0))
  have KB := Lib.hid (fun (h : evF e = 0) (h2 : strB fr t = true) W (q : Below w.heap.size w W) => between_of e s fr t l W (hv.on q) (evF_lens h).1.1 (evF_lens h).1.2.1 (evF_lens h).1.2.2 hl (fun W' q' => hK h h2 W' (q.trans (q'.mono q.size))))
  have H0 := Lib.hid (@lcF_ev l e fr t)
  have H1 := Lib.hid (@lcF_str l e fr t)
  have H2 := Lib.hid (@lcF_len l e fr t)
  have H3 := Lib.hid (@lcL_no l e fr t)
  have H4 := Lib.hid (@lcL_yes l e fr t)
  generalize lcF l e fr t = F at H0 H1 H2 H3 H4 ⊢
  generalize lcL l e fr t = L at H3 H4 ⊢
  generalize evL l e fr t = RES at H2 H4 KB
  generalize evF e = EF at H0 H1 H2 KC KB
  clear hv hl hK B0
  go_enter Tryz.func12, Tryz.ntmps12
  go_wp2_with fail
  generalize w.alloc (.cells (ecells e s) 29) = W0 at HB0 R0 KC ⊢
  refine KC.out.mono ?_
  rintro x w1 ⟨rfl, hb⟩
  have HB1 := Lib.hid (HB0.out.trans (hb.mono HB0.out.size))
  have R1 := Lib.hid (R0.out.on hb)
  clear hb HB0 R0 KC
  by_cases hz : EF = 0
  case neg =>
    have N : Hid (F = EF ∧ L = []) := Lib.hid ⟨H0.out hz, H3.out (by rw [H0.out hz]; exact hz)⟩
    rw [efault_ne hz]
    have HZ := Lib.hid hz
    clear hz H0 H1 H2 H3 H4 KB
    go_wp2
    go_ret2
    exact ⟨.slice none 0 0, by rw [N.out.1, efault_ne HZ.out]; rfl, by rw [N.out.2]; exact Wr.nil _ _, HB1.out⟩
  rw [hz, efault_0]
  have HZ := Lib.hid hz
  clear hz H0
  have EH : Hid (strB fr t = (((ist fr && ist t) && decide (fr ≤ t)) && decide (t - fr ≤ 1000000))) := Lib.hid rfl
  have NB : Hid (strB fr t = false → F = 1 ∧ L = []) := Lib.hid (fun q => by
    have := H1.out HZ.out q
    exact ⟨this, H3.out (by rw [this]; decide)⟩)
  go_wp2_with fail
  refine (isTime_any fr _).mono ?_
  rintro x w2 ⟨rfl, hw⟩
  replace hw := hw.symm
  subst hw
  rcases h1 : ist fr with _ | _
  · have N := Lib.hid (NB.out (by rw [EH.out, h1]; rfl))
    clear H1 H2 H3 H4 KB NB
    go_wp2
    go_ret2
    exact ⟨.slice none 0 0, by rw [N.out.1]; rfl, by rw [N.out.2]; exact Wr.nil _ _, HB1.out⟩
  go_wp2_with fail
  refine (isTime_any t _).mono ?_
  rintro x w2 ⟨rfl, hw⟩
  replace hw := hw.symm
  subst hw
  rcases h2 : ist t with _ | _
  · have N := Lib.hid (NB.out (by rw [EH.out, h1, h2]; rfl))
    clear H1 H2 H3 H4 KB NB
    go_wp2
    go_ret2
    exact ⟨.slice none 0 0, by rw [N.out.1]; rfl, by rw [N.out.2]; exact Wr.nil _ _, HB1.out⟩
  obtain ⟨f1, f2⟩ := of_decide_eq_true h1
  obtain ⟨t1, t2⟩ := of_decide_eq_true h2
  by_cases h3 : fr ≤ t
  case neg =>
    have N := Lib.hid (NB.out (by rw [EH.out, h1, h2, decide_eq_false h3]; rfl))
    clear H1 H2 H3 H4 KB NB h1 h2
    go_wp2
    go_ret2
    exact ⟨.slice none 0 0, by rw [N.out.1]; rfl, by rw [N.out.2]; exact Wr.nil _ _, HB1.out⟩
  by_cases h4 : t - fr ≤ 1000000
  case neg =>
    have N := Lib.hid (NB.out (by rw [EH.out, h1, h2, decide_eq_true h3, decide_eq_false h4]; rfl))
    clear H1 H2 H3 H4 KB NB h1 h2
    go_wp2
    go_ret2
    exact ⟨.slice none 0 0, by rw [N.out.1]; rfl, by rw [N.out.2]; exact Wr.nil _ _, HB1.out⟩
  have hS : strB fr t = true := by rw [EH.out, h1, h2, decide_eq_true h3, decide_eq_true h4]; rfl
  have G2 := Lib.hid (H2.out HZ.out hS)
  have K := Lib.hid (KB.out HZ.out hS _ HB1.out)
  clear H1 H2 KB NB hS h1 h2
  have rl := R1.out.lt
  obtain ⟨⟨a0, a1, a2, a3, a4⟩, ⟨b0, b1, b2, b3, b4, b5, b6, b7⟩, c0, c1, c2, c3⟩ := R1.out
  go_wp2_with fail
  clear a0 a1 a2 a3 a4 b0 b1 b2 b3 b4 b5 b6 b7 c0 c1 c2 c3 rl
  refine K.out.mono ?_
  rintro x w2 ⟨v, rfl, hr, hb⟩
  have HB2 := Lib.hid (HB1.out.trans (hb.mono HB1.out.size))
  have HR := Lib.hid hr
  have sz := Lib.hid HB1.out.size
  obtain ⟨a, cap, ev, hcc⟩ := hr.open
  subst ev
  clear hb HB1 R1 K hcc
  by_cases hq : 200 < RES.length
  · have N : Hid (F = 4 ∧ L = []) := Lib.hid (by have := G2.out; rw [if_pos hq] at this; exact ⟨this, H3.out (by rw [this]; decide)⟩)
    clear H3 H4 G2
    go_wp2
    go_ret2
    exact ⟨.slice none 0 0, by rw [N.out.1]; rfl, by rw [N.out.2]; exact Wr.nil _ _, HB2.out⟩
  · have N : Hid (F = 0 ∧ L = RES) := Lib.hid (by have := G2.out; rw [if_neg hq] at this; exact ⟨this, H4.out this⟩)
    clear H3 H4 G2
    go_wp2
    go_ret2
    refine ⟨.slice a RES.length cap, by rw [N.out.1]; rfl, ?_, HB2.out⟩
    rw [N.out.2]
    exact HR.out.mono sz.out
end Go.Proofs.YtdiijpjfkgnjkadGreatDoor
