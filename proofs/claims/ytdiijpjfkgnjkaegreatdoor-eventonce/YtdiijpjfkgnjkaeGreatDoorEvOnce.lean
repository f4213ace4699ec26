/-
  What is proved here: the walk of chimelaw4.EventOnce: it returns true for every event and two numbers, and turns nothing that was there.
-/
import Derived.Test.YtdiijpjfkgnjkaeGreatDoorBZ
import Derived.Test.YtdiijpjfkgnjkaeGreatDoorRefIn
import Derived.Deep.Cut
namespace Go.Proofs.YtdiijpjfkgnjkaeGreatDoor
open Go.RowKit Cal Txt

set_option maxRecDepth 100000 in
set_option maxHeartbeats 4000000 in
theorem eonce (e : Evt) (s : Evs) (fr t : Int) (w : World) (hv : EvB w e s) :
    Calls Tryz.prog 3 #[.agg (ecells e s), .int .i64 fr, .int .i64 t] w fun x w' => x = .returned (.bool true) ∧ Below w.heap.size w w' := by
  have B0 := (Below.refl w.heap.size w).alloc (Nat.le_refl _) (.cells (ecells e s) 29)
  have R0 := EOwn.new w e s 29
  have HV := Lib.hid (fun W (q : Below w.heap.size w W) => hv.on q)
  have sz0 : (w.alloc (.cells (ecells e s) 29)).heap.size = w.heap.size + 1 := World.size_alloc _ _
  have SZ := Lib.hid sz0
  have OC : Hid ((ecells (ev1 [97] 700) nil8).all (fun x => x.oneCell') = true) := Lib.hid (by simp [Value.oneCell'])
  have HB0 := Lib.hid B0
  have HR0 := Lib.hid R0
  clear hv B0 R0 sz0
  go_enter Tryz.func3, Tryz.ntmps3
  go_upto_region 1 with fail
  go_wp2_with (first | (refine ev_store ?h1 (.tmp 7) (.tmp 13) ?h2 (w.heap.size + 1) _ _ ?h3 SZ.out (ev1 [97] 700) nil8 ?h4 ?h5 ?h6 ?h7; (case h1 => rfl); (case h2 => rfl); (case h3 => rfl); (case h4 => exact OC.out); (case h5 => rfl); (case h6 => rfl); intro W1 r1 b1; have Q1 := Lib.hid (And.intro r1 b1); clear r1 b1) | (refine ev_load ?i1 (.tmp 7) ?i2 (w.heap.size + 1) (ev1 [97] 700) nil8 ?i3 Q1.out.1.1 ?i4; (case i1 => rfl); (case i2 => rfl); (case i3 => rfl)))
  have B1 := Lib.hid (HB0.out.trans (Q1.out.2.mono HB0.out.size))
  have R1 := Lib.hid (HR0.out.on Q1.out.2)
  clear HB0 HR0 SZ OC Q1
  have K := local_of (ev1 [97] 700) nil8 1 1000 [700] W1 ⟨nil_int _, nil_int _, nil_nth _, nil_int _, nil_int _, nil_int _, nil_nth _, nil_alm _⟩ (by decide) (fun _ _ W _ => ofStart_once _ _ _ _ _ rfl)
  rw [one_told, one_list] at K
  refine K.mono ?_
  clear K
  rintro x w2 ⟨v, rfl, hw2, hb⟩
  obtain ⟨a, cap, rfl, _, _, hc⟩ := hw2.open
  clear hw2
  have B2 := Lib.hid (B1.out.trans (hb.mono B1.out.size))
  have R2 := Lib.hid (R1.out.on hb)
  rcases hc with hc | ⟨b, off, rfl, _, hh⟩
  · cases hc
  have ck : w2.cell? ⟨b, off, none⟩ = some (.int .i64 700) := (hh 0 (by decide)).1
  clear hh hb B1 R1
  rw [efault_0]
  have c4 := R2.out.1.1.2.2.2.2
  have f4 := R2.out.2 4
  have rl := R2.out.1.lt
  go_upto_region 6 with fail
  have R3 := Lib.hid (R2.out.rep false)
  have B3 := Lib.hid (B2.out.setCell (p := ⟨w.heap.size, 4, none⟩) (Nat.le_refl _) (.bool false))
  clear c4 f4 rl R2 B2 ck
  generalize w2.setCell ⟨w.heap.size, 4, none⟩ (.bool false) = w3 at R3 B3 ⊢
  go_upto_region 7 with (refine wpList_store_mid rfl 25 (.tmp 34) (.tmp 33) rfl w.heap.size 5 noVs.toArray rfl rfl R3.out.there8 (by kernel_rfl) (by simp [Value.oneCell']) ?_)
  have R4 := Lib.hid R3.out.norule
  have B4 := Lib.hid (B3.out.trans (blw_cells (Nat.le_refl w.heap.size) noVs 5 w3))
  clear R3 B3
  generalize w3.setCells w.heap.size 5 noVs = w4 at R4 B4 ⊢
  have c13 := R4.out.1.2.2.1
  have f13 := R4.out.2 13
  have rl := R4.out.1.lt
  dsimp only at c13
  go_upto_region 8 with fail
  have R5 : Hid (EOwn (w4.setCell ⟨w.heap.size, 13, none⟩ (.slice none 0 0)) w.heap.size (onc e) ⟨.slice none 0 0, .slice none 0 0, .slice none 0 0, .slice none 0 0, .slice none 0 0, s.vn, s.vc, s.va⟩) := Lib.hid (R4.out.more [] (.slice none 0 0))
  have B5 := Lib.hid (B4.out.setCell (p := ⟨w.heap.size, 13, none⟩) (Nat.le_refl _) (.slice none 0 0))
  clear c13 f13 rl R4 B4
  generalize w4.setCell ⟨w.heap.size, 13, none⟩ (.slice none 0 0) = w5 at R5 B5 ⊢
  have hv5 := HV.out _ B5.out
  have hB' : EvB w5 (onc e) ⟨.slice none 0 0, .slice none 0 0, .slice none 0 0, .slice none 0 0, .slice none 0 0, s.vn, s.vc, s.va⟩ := ⟨nil_int _, nil_int _, nil_nth _, nil_int _, nil_int _, hv5.2.2.2.2.2.1, hv5.2.2.2.2.2.2.1, hv5.2.2.2.2.2.2.2⟩
  have K := Lib.hid (local_of (onc e) _ fr t [e.start] w5 hB' (by simp) (fun _ _ W _ => ofStart_once (onc e) _ _ _ W rfl))
  have LE := Lib.hid (fun (q : lcF [e.start] (onc e) fr t = 0) => show e.nots.length ≤ 100 from by
    by_cases g : evF (onc e) = 0
    · exact (evF_lens g).1.2.1
    · rw [lcF_ev g] at q; exact absurd q g)
  have YES := Lib.hid (@once_yes e fr t)
  have NO := Lib.hid (@once_no e fr t)
  generalize lcF [e.start] (onc e) fr t = F at K LE YES NO
  generalize lcL [e.start] (onc e) fr t = L at K YES NO
  clear hv5 hB'
  go_wp2_with (refine ev_load ?j1 (.tmp 3) ?j2 w.heap.size _ _ ?j3 R5.out.1 ?j4; (case j1 => rfl); (case j2 => rfl); (case j3 => rfl))
  refine K.out.mono ?_
  rintro x w6 ⟨v, rfl, hr, hb⟩
  have B6 := Lib.hid (B5.out.trans (hb.mono B5.out.size))
  have R6 := Lib.hid (R5.out.on hb)
  clear hb B5 R5 K
  by_cases hz : F = 0
  case neg =>
    rw [efault_ne hz]
    clear hz LE YES NO hr
    go_wp2
    go_ret
    exact ⟨rfl, B6.out⟩
  rw [hz, efault_0]
  have nl := LE.out hz
  have KI := Lib.hid (Zo.refIn_any s.vn e.nots e.start w6 (HV.out _ B6.out).2.2.2.2.2.1 (by omega))
  have EY := Lib.hid (YES.out hz)
  have EN := Lib.hid (NO.out hz)
  clear hz LE YES NO
  obtain ⟨a', cap', rfl, _, _, hc⟩ := hr.open
  have rl := R6.out.1.lt
  have c2 := R6.out.1.1.2.2.1
  have c14 := R6.out.1.2.2.2.1
  dsimp only at c2 c14
  generalize e.nots.contains e.start = N at KI EY EN
  generalize e.start = st at KI EY EN c2
  go_wp2_with fail
  clear c14
  refine KI.out.mono ?_
  rintro x w7 ⟨rfl, hw⟩
  replace hw := hw.symm
  subst hw
  rcases N with _ | _
  case true =>
    have E0 := EN.out (Or.inl rfl)
    subst E0
    clear EY EN hc
    go_wp2
    go_ret
    exact ⟨rfl, B6.out⟩
  by_cases h1 : st < fr
  · have E0 := EN.out (Or.inr (Or.inl h1))
    subst E0
    clear EY EN hc
    go_wp2
    go_ret
    exact ⟨rfl, B6.out⟩
  by_cases h2 : t < st
  · have E0 := EN.out (Or.inr (Or.inr h2))
    subst E0
    clear EY EN hc
    go_wp2
    go_ret
    exact ⟨rfl, B6.out⟩
  have E1 := EY.out rfl (by omega) (by omega)
  subst E1
  rcases hc with hc | ⟨b', off', rfl, _, hh⟩
  · cases hc
  have ck : w6.cell? ⟨b', off', none⟩ = some (.int .i64 st) := (hh 0 (by simp)).1
  clear EY EN hh
  go_wp2_with fail
  go_quiet (fail)
  go_wp2
  go_ret
  exact ⟨by simp, below_drewN B6.out _⟩
end Go.Proofs.YtdiijpjfkgnjkaeGreatDoor
