/-
  What is proved here: the walk of chimelaw2.CardBack: it returns true for every event and every text that is not too long, and turns nothing that was there; tables and words are asked as premises.
-/
import Derived.Test.YtpplfcfhjpfckaaGreatDoorQR
import Derived.Test.YtpplfcfhjpfckaaGreatDoorCbPar2
import Derived.Test.YtpplfcfhjpfckaaGreatDoorQS
import Derived.Test.YtpplfcfhjpfckaaGreatDoorQT
namespace Go.Proofs.YtpplfcfhjpfckaaGreatDoor
open Go.RowKit Cal Txt Ln Cb

theorem tb_self (t : ByteArray) : tb t.data.toList = t := by cases t; simp [tb]
theorem EvB.one {w : World} {e : Evt} {s : Evs} (h : EvB w e s) : (ecells e s).all (fun x => x.oneCell') = true := by
  obtain ⟨⟨_, _, q1, _⟩, ⟨_, _, q2, _⟩, ⟨_, _, q3, _⟩, ⟨_, _, q4, _⟩, ⟨_, _, q5, _⟩, ⟨_, _, q6, _⟩, ⟨_, _, q7, _⟩, ⟨_, _, q8, _⟩⟩ := h
  simp [Value.oneCell', q1, q2, q3, q4, q5, q6, q7, q8]
set_option maxRecDepth 100000 in
set_option maxHeartbeats 8000000 in
theorem cback_walk (e : Evt) (s : Evs) (text : ByteArray) (w : World) (hv : EvB w e s) (hK : KeepK w) (hs : text.size ≤ 1048576) :
    Calls Tryz.prog 3 #[.agg (ecells e s), .string text] w fun x w' => x = .returned (.bool true) ∧ Below w.heap.size w w' := by
  have HV := Lib.hid (fun W (q : Below w.heap.size w W) => hv.on q)
  have HK : Hid (∀ W, Below w.heap.size w W → KeepK W) := Lib.hid (fun W q => hK.below q)
  have B0 : Below w.heap.size w (w.alloc (.cells (ecells e s) 29)) := (Below.refl _ _).alloc (Nat.le_refl _) _
  have KF := Lib.hid (cparse_any ⟨#[78, 65, 77, 69, 58, 97, 10, 83, 84, 65, 82, 84, 58, 50, 48, 50, 54, 45, 49, 49, 45, 49, 53, 32, 49, 54, 58, 53, 57, 10, 76, 69, 78, 71, 84, 72, 58, 49, 104, 10]⟩ _ (hK.below B0) (by decide))
  have HR := Lib.hid (EBox.new w e s 29)
  have HB := Lib.hid B0
  clear hv hK B0
  go_enter Tryz.func3, Tryz.ntmps3
  go_wp2_with fail
  refine KF.out.mono ?_
  rintro x w1 ⟨hb, hx⟩
  rcases hx with ⟨e1, s1, hp, hv1, rfl⟩ | ⟨hn, _⟩
  case inr => exact absurd psd_fact_is (hn eF)
  obtain rfl : e1 = eF := psd_fact hp
  have HB1 := Lib.hid (HB.out.trans (hb.mono HB.out.size))
  have HR1 := Lib.hid (HR.out.on hb)
  have OC := Lib.hid hv1.one
  clear hp hb KF HR HB hv1
  go_wp2_with (first | (refine ev_store ?h1 (.tmp 5) (.tmp 19) ?h2 w1.heap.size _ _ ?h3 rfl eF s1 ?h4 ?h5 ?h6 ?h7; (case h1 => rfl); (case h2 => rfl); (case h3 => rfl); (case h4 => exact OC.out); (case h5 => rfl); (case h6 => rfl); intro W1 r1 b1; have c0 : W1.cell? ⟨w1.heap.size, 0, none⟩ = some (.string ⟨#[97]⟩) := r1.1.1.1; have c2 : W1.cell? ⟨w1.heap.size, 2, none⟩ = some (.int .i64 66729179) := r1.1.1.2.2.1; have c3 : W1.cell? ⟨w1.heap.size, 3, none⟩ = some (.int .i64 60) := r1.1.1.2.2.2.1; have q1 := r1.1.lt; have HR2 := Lib.hid (HR1.out.on b1); have HB2 := Lib.hid (HB1.out.trans (b1.mono HB1.out.size)); clear r1 b1) | (refine ev_load ?i1 (.tmp 2) ?i2 w.heap.size e s ?i3 HR2.out ?i4; (case i1 => rfl); (case i2 => rfl); (case i3 => rfl)))
  clear c0 c2 c3 q1 HR1 HB1 OC
  refine (cprint_any e s W1 (HV.out W1 HB2.out) (HK.out W1 HB2.out)).mono ?_
  rintro x w2 ⟨rfl, hb⟩
  have HB3 := Lib.hid (HB2.out.trans (hb.mono HB2.out.size))
  have HR3 := Lib.hid (HR2.out.on hb)
  clear hb HB2 HR2
  by_cases hz : evF e = 0
  · have F0 : fault (evF e) = .nilIface := by rw [hz]; rfl
    rw [if_pos hz, F0]
    have KP := Lib.hid (cparse_any (tb (crd e)) w2 (HK.out w2 HB3.out) (by rw [tb_size]; have := crd_len hz; omega))
    clear F0
    go_wp2_with fail
    refine KP.out.mono ?_
    rintro x w3 ⟨hb, hx⟩
    rw [tb_data] at hx
    rcases hx with ⟨e1, s2, hp, hv2, rfl⟩ | ⟨hn, _⟩
    case inr => exact absurd (psd_read hz) (hn e)
    obtain rfl : e1 = e := psd_one hp (psd_read hz)
    have HB4 := Lib.hid (HB3.out.trans (hb.mono HB3.out.size))
    have HR4 := Lib.hid (HR3.out.on hb)
    have OC := Lib.hid hv2.one
    have HV2 := Lib.hid hv2
    clear hp hb KP HR3 HB3 hv2
    go_wp2_with (first | (refine ev_store ?j1 (.tmp 10) (.tmp 53) ?j2 w3.heap.size _ _ ?j3 rfl e1 s2 ?j4 ?j5 ?j6 ?j7; (case j1 => rfl); (case j2 => rfl); (case j3 => rfl); (case j4 => exact OC.out); (case j5 => rfl); (case j6 => rfl); intro W2 r1 b1; have HX := Lib.hid r1.1; have HV3 := Lib.hid (HV2.out.on b1); have HR5 := Lib.hid (HR4.out.on b1); have HB5 := Lib.hid (HB4.out.trans (b1.mono HB4.out.size)); clear r1 b1) | (refine ev_load ?k1 (.tmp 10) ?k2 w3.heap.size e1 s2 ?k3 HX.out ?k4; (case k1 => rfl); (case k2 => rfl); (case k3 => rfl)) | (refine ev_load ?l1 (.tmp 2) ?l2 w.heap.size e1 s ?l3 HR5.out ?l4; (case l1 => rfl); (case l2 => rfl); (case l3 => rfl)))
    clear HR4 HB4 OC HX
    have EC := evF_card hz
    refine (sameEvent e1 s2 s W2 HV3.out (HV.out W2 HB5.out) (ru_ok2 EC.2.2.2.1) EC.2.2.2.2.1.1 EC.2.2.2.2.1.2.1 EC.2.2.2.2.1.2.2.1 (by have := EC.2.2.2.2.1.2.2.2; omega)).mono ?_
    rintro x w4 ⟨rfl, hb⟩
    have HB6 := Lib.hid (HB5.out.trans (hb.mono HB5.out.size))
    clear hb HB5 HR5 HV3 HV2 EC
    go_wp2_with fail
    refine (cparse_any text w4 (HK.out w4 HB6.out) hs).mono ?_
    rintro x w5 ⟨hb, hx⟩
    have HB7 := Lib.hid (HB6.out.trans (hb.mono HB6.out.size))
    clear hb HB6
    rcases hx with ⟨e2, s3, hp, hv3, rfl⟩ | ⟨hn, N, k, rfl⟩
    · have PB := Lib.hid (psd_back hp)
      have PF := Lib.hid hp.2.2.2
      have OC := Lib.hid hv3.one
      have HV4 := Lib.hid hv3
      clear hp hv3
      go_wp2_with (first | (refine ev_store ?m1 (.tmp 14) (.tmp 68) ?m2 w5.heap.size _ _ ?m3 rfl e2 s3 ?m4 ?m5 ?m6 ?m7; (case m1 => rfl); (case m2 => rfl); (case m3 => rfl); (case m4 => exact OC.out); (case m5 => rfl); (case m6 => rfl); intro W3 r1 b1; have HX := Lib.hid r1.1; have HV5 := Lib.hid (HV4.out.on b1); have HB8 := Lib.hid (HB7.out.trans (b1.mono HB7.out.size)); clear r1 b1) | (refine ev_load ?n1 (.tmp 14) ?n2 w5.heap.size e2 s3 ?n3 HX.out ?n4; (case n1 => rfl); (case n2 => rfl); (case n3 => rfl)))
      clear OC HX HV4 HB7
      refine (cprint_any e2 s3 W3 HV5.out (HK.out W3 HB8.out)).mono ?_
      rintro x w6 ⟨rfl, hb⟩
      have HB9 := Lib.hid (HB8.out.trans (hb.mono HB8.out.size))
      have F1 : fault (evF e2) = .nilIface := by rw [PF.out]; rfl
      have T1 : tb (crd e2) = text := by rw [PB.out]; exact tb_self text
      rw [if_pos PF.out, F1, T1]
      clear hb HB8 HV5 PB PF F1 T1
      go_wp2
      go_ret
      exact ⟨ret_bool (by simp), HB9.out⟩
    · have OC : Hid ((ecells e00 nil8).all (fun x => x.oneCell') = true) := Lib.hid (by simp [Value.oneCell'])
      clear hn
      go_wp2_with (first | (refine ev_store ?o1 (.tmp 14) (.tmp 68) ?o2 w5.heap.size _ _ ?o3 rfl e00 nil8 ?o4 ?o5 ?o6 ?o7; (case o1 => rfl); (case o2 => rfl); (case o3 => rfl); (case o4 => exact OC.out); (case o5 => rfl); (case o6 => rfl); intro W3 r1 b1; have HB8 := Lib.hid (HB7.out.trans (b1.mono HB7.out.size)); clear r1 b1))
      go_ret
      exact ⟨rfl, HB8.out⟩
  · rw [if_neg hz, efault_ne hz]
    have HB6 := HB3
    clear HB3 HR3
    go_wp2_with fail
    refine (cparse_any text w2 (HK.out w2 HB6.out) hs).mono ?_
    rintro x w5 ⟨hb, hx⟩
    have HB7 := Lib.hid (HB6.out.trans (hb.mono HB6.out.size))
    clear hb HB6
    rcases hx with ⟨e2, s3, hp, hv3, rfl⟩ | ⟨hn, N, k, rfl⟩
    · have PB := Lib.hid (psd_back hp)
      have PF := Lib.hid hp.2.2.2
      have OC := Lib.hid hv3.one
      have HV4 := Lib.hid hv3
      clear hp hv3
      go_wp2_with (first | (refine ev_store ?p1 (.tmp 14) (.tmp 68) ?p2 w5.heap.size _ _ ?p3 rfl e2 s3 ?p4 ?p5 ?p6 ?p7; (case p1 => rfl); (case p2 => rfl); (case p3 => rfl); (case p4 => exact OC.out); (case p5 => rfl); (case p6 => rfl); intro W3 r1 b1; have HX := Lib.hid r1.1; have HV5 := Lib.hid (HV4.out.on b1); have HB8 := Lib.hid (HB7.out.trans (b1.mono HB7.out.size)); clear r1 b1) | (refine ev_load ?q1 (.tmp 14) ?q2 w5.heap.size e2 s3 ?q3 HX.out ?q4; (case q1 => rfl); (case q2 => rfl); (case q3 => rfl)))
      clear OC HX HV4 HB7
      refine (cprint_any e2 s3 W3 HV5.out (HK.out W3 HB8.out)).mono ?_
      rintro x w6 ⟨rfl, hb⟩
      have HB9 := Lib.hid (HB8.out.trans (hb.mono HB8.out.size))
      have F1 : fault (evF e2) = .nilIface := by rw [PF.out]; rfl
      have T1 : tb (crd e2) = text := by rw [PB.out]; exact tb_self text
      rw [if_pos PF.out, F1, T1]
      clear hb HB8 HV5 PB PF F1 T1
      go_wp2
      go_ret
      exact ⟨ret_bool (by simp), HB9.out⟩
    · have OC : Hid ((ecells e00 nil8).all (fun x => x.oneCell') = true) := Lib.hid (by simp [Value.oneCell'])
      clear hn
      go_wp2_with (first | (refine ev_store ?r1 (.tmp 14) (.tmp 68) ?r2 w5.heap.size _ _ ?r3 rfl e00 nil8 ?r4 ?r5 ?r6 ?r7; (case r1 => rfl); (case r2 => rfl); (case r3 => rfl); (case r4 => exact OC.out); (case r5 => rfl); (case r6 => rfl); intro W3 r1 b1; have HB8 := Lib.hid (HB7.out.trans (b1.mono HB7.out.size)); clear r1 b1))
      go_ret
      exact ⟨rfl, HB8.out⟩
end Go.Proofs.YtpplfcfhjpfckaaGreatDoor
