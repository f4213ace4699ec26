/-
  What is proved here: what package card's read does to what was read so far (a contract over the translation); tables are asked as premises.
  What is proved here: what package card's take does to what was read so far (a contract over the translation); tables are asked as premises.
-/
import Derived.Test.YtpplfcfhjpfckaaGreatDoorQN
import Derived.Test.YtpplfcfhjpfckaaGreatDoorQN2
import Derived.Test.YtpplfcfhjpfckaaGreatDoorCbKnd
namespace Go.Proofs.YtpplfcfhjpfckaaGreatDoor
open Go.RowKit Go Cal Txt Ln Cb

theorem read_any (k : Nat) (hk : k < 9) (e : Evt) (nx b n1 : Nat) (s : Evs) (S : Nat → Prop) (val : ByteArray) (w : World) (h : RdJ b n1 e nx s S w) (hK : ∀ W, Below n1 w W → KeepK W) (hs : val.size ≤ 2000000) (hl : e.more.length ≤ 2000000 ∧ e.nots.length ≤ 2000000 ∧ e.chg.length ≤ 2000000 ∧ e.alm.length ≤ 2000000) :
    Calls Tryz.prog 40 #[.pointer (some ⟨b, 0, none⟩), .string (tb (ky k)), .string val] w (RdA k e s nx b n1 S val.data.toList w) := by
  rcases nine hk with rfl | rfl | rfl | rfl | rfl | rfl | rfl | rfl | rfl
  · exact read_0 e nx b n1 s S val w h
  · exact read_1 e nx b n1 s S val w h hK hs
  · exact read_2 e nx b n1 s S val w h hK
  · exact read_3 e nx b n1 s S val w h hK hs
  · exact read_4 e nx b n1 s S val w h hK hs
  · exact read_5 e nx b n1 s S val w h hK hl
  · exact read_6 e nx b n1 s S val w h hK hl
  · exact read_7 e nx b n1 s S val w h hK hs hl
  · exact read_8 e nx b n1 s S val w h hK hs hl
end Go.Proofs.YtpplfcfhjpfckaaGreatDoor
namespace Go.Proofs.YtpplfcfhjpfckaaGreatDoor
open Go.RowKit Go Cal Txt Ln Cb

theorem pa_pr (s : ByteArray) : paB s = pr s.data.toList := by
  unfold paB pr ctF
  by_cases h : at1 58 s.data.toList < s.size
  · rw [ctA_list h]; rfl
  · have : ¬ at1 58 s.data.toList < s.data.toList.length := h
    rw [decide_eq_false h, decide_eq_false this]; rfl
theorem pr_lt {s : ByteArray} (h : paB s = true) : at1 58 s.data.toList < s.size := by
  unfold paB ctF at h
  rw [Bool.and_eq_true, decide_eq_true_eq] at h
  exact h.1
theorem paK_list {s : ByteArray} (h : paB s = true) : (paK s).data.toList = s.data.toList.take (at1 58 s.data.toList) := by
  unfold paK
  rw [if_pos h]
  exact ctA_list (pr_lt h)
theorem paV_list {s : ByteArray} (h : paB s = true) : (paV s).data.toList = s.data.toList.drop (at1 58 s.data.toList + 1) := by
  unfold paV
  rw [if_pos h]
  exact ctB_list (pr_lt h)
/-- What take answers. -/
def TkA (st : Evt × Nat) (s : Evs) (b n1 : Nat) (S : Nat → Prop) (l : List UInt8) (w : World) (x : Ending) (w' : World) : Prop :=
  (∃ st' S', tk1 st l = some st' ∧ x = .returned (.bool true) ∧ Gr S w S' ∧ Kps S w w' ∧ RdI b n1 st.1 s w.heap.size st' S' w') ∨ (tk1 st l = none ∧ x = .returned (.bool false) ∧ Kps S w w')
theorem kn_many {W : World} (h : KnW W) {k : Nat} (hk : k < 9) : W.cell? ⟨0, k * 3 + 2, none⟩ = some (.bool (decide (5 ≤ k))) := by
  rcases nine hk with rfl | rfl | rfl | rfl | rfl | rfl | rfl | rfl | rfl
  · exact h 2 _ rfl
  · exact h 5 _ rfl
  · exact h 8 _ rfl
  · exact h 11 _ rfl
  · exact h 14 _ rfl
  · exact h 17 _ rfl
  · exact h 20 _ rfl
  · exact h 23 _ rfl
  · exact h 26 _ rfl
theorem tk_no {st : Evt × Nat} {l : List UInt8} (h : pr l = false) : tk1 st l = none := by unfold tk1; rw [h]; rfl
theorem tk_pl {st : Evt × Nat} {l : List UInt8} (h : pr l = true) (hp : plc st.2 (l.take (at1 58 l)) = none) : tk1 st l = none := by unfold tk1; rw [if_pos h, hp]
theorem tk_rd {st : Evt × Nat} {l : List UInt8} {k : Nat} (h : pr l = true) (hp : plc st.2 (l.take (at1 58 l)) = some k) (hr : rd k st.1 (l.drop (at1 58 l + 1)) = none) : tk1 st l = none := by unfold tk1; rw [if_pos h, hp]; dsimp only; rw [hr]
theorem tk_yes {st : Evt × Nat} {l : List UInt8} {k : Nat} {e : Evt} (h : pr l = true) (hp : plc st.2 (l.take (at1 58 l)) = some k) (hr : rd k st.1 (l.drop (at1 58 l + 1)) = some e) : tk1 st l = some (e, nxt k) := by unfold tk1; rw [if_pos h, hp]; dsimp only; rw [hr]
set_option maxRecDepth 100000 in
set_option maxHeartbeats 1600000 in
theorem take_any (e : Evt) (nx b n1 : Nat) (s : Evs) (S : Nat → Prop) (wh : ByteArray) (w : World) (h : RdJ b n1 e nx s S w) (hK : ∀ W, Below n1 w W → KeepK W) (hs : wh.size ≤ 2000000) (hl : e.more.length ≤ 2000000 ∧ e.nots.length ≤ 2000000 ∧ e.chg.length ≤ 2000000 ∧ e.alm.length ≤ 2000000) :
    Calls Tryz.prog 20 #[.pointer (some ⟨b, 0, none⟩), .string wh] w (TkA (e, nx) s b n1 S wh.data.toList w) := by
  have hnw : n1 ≤ w.heap.size := Nat.le_trans h.hn (Nat.le_of_lt h.rb.lt)
  have KP := Lib.hid (pair_any wh w (by omega))
  rcases hp : paB wh with _ | _
  · have E := Lib.hid (tk_no (st := (e, nx)) (l := wh.data.toList) (by rw [← pa_pr]; exact hp))
    have F2 : paF wh = 2 := by unfold paF; rw [hp]; rfl
    rw [F2, show fault 2 = .iface 45 (.int .i64 2) from rfl] at KP
    clear F2 hp h hK hl
    go_enter Tryz.func20, Tryz.ntmps20
    go_wp2_with fail
    refine KP.out.mono ?_
    rintro x w1 ⟨rfl, hb⟩
    go_wp2
    go_ret
    exact Or.inr ⟨E.out, rfl, Kps.of_below hb⟩
  have F0 : paF wh = 0 := by unfold paF; rw [hp]; rfl
  rw [F0, show fault 0 = .nilIface from rfl] at KP
  have hpr : pr wh.data.toList = true := by rw [← pa_pr]; exact hp
  have eK := paK_list hp
  have eV := paV_list hp
  have zV : (paV wh).size ≤ 2000000 := by
    show (paV wh).data.toList.length ≤ _
    rw [eV, List.length_drop]
    have : wh.data.toList.length = wh.size := rfl
    omega
  have N1 := Lib.hid (tk_pl (st := (e, nx)) hpr)
  have N2 := Lib.hid (fun k => tk_rd (st := (e, nx)) (k := k) hpr)
  have N3 := Lib.hid (fun k e' => tk_yes (st := (e, nx)) (k := k) (e := e') hpr)
  rw [← eK] at N1
  rw [← eK, ← eV] at N2 N3
  clear hp F0 hpr eK eV
  generalize paK wh = key at KP N1 N2 N3
  generalize paV wh = val at KP N2 N3 zV
  have H := Lib.hid h
  have HK := Lib.hid hK
  have HL := Lib.hid hl
  clear h hK hl
  unfold TkA
  dsimp only
  generalize tk1 (e, nx) wh.data.toList = TO at N1 N2 N3 ⊢
  dsimp only at N1 N2 N3
  go_enter Tryz.func20, Tryz.ntmps20
  go_wp2_with fail
  refine KP.out.mono ?_
  rintro x w1 ⟨rfl, hb⟩
  have J1 := H.out.keep hb
  have b1 : Below n1 w w1 := hb.mono hnw
  have K1 := HK.out w1 b1
  have HB := Lib.hid hb
  have HB1 := Lib.hid b1
  have HJ := Lib.hid J1
  have KPL := Lib.hid (place_any b nx key w1 K1.knd (J1.rb.cell 17 _ rfl))
  clear KP hb b1 J1 K1
  go_wp2_with fail
  refine KPL.out.mono ?_
  rintro x w2 ⟨rfl, hb⟩
  clear KPL
  have HB2 := Lib.hid (HB.out.trans (hb.mono HB.out.size))
  have BN2 := Lib.hid (HB1.out.trans (hb.mono (Nat.le_trans hnw HB1.out.size)))
  have HJ2 := Lib.hid (HJ.out.keep hb)
  clear hb HB HB1 HJ
  rcases hpl : plc nx key.data.toList with _ | k
  · have E := Lib.hid (N1.out hpl)
    clear N1 N2 N3 hpl
    rw [show pcV none = .tuple #[.int .i64 0, .bool false] from rfl]
    go_wp2
    go_ret
    exact Or.inr ⟨E.out, rfl, Kps.of_below HB2.out⟩
  obtain ⟨hk, hx, hkey, _⟩ := plc_in hpl
  have ekey : key = tb (ky k) := by rw [← hkey]; rfl
  rw [show pcV (some k) = .tuple #[.int .i64 k, .bool true] from rfl]
  have KR := Lib.hid (read_any k hk e nx b n1 s S val w2 HJ2.out (fun W q => HK.out W (BN2.out.trans q)) zV HL.out)
  have HPL := Lib.hid hpl
  subst ekey
  clear hkey hpl N1
  go_wp2_with fail
  refine KR.out.mono ?_
  rintro x w3 hx3
  clear KR
  rcases hx3 with ⟨e', S', hr, rfl, g3, k3, s3, J3, N3r⟩ | ⟨hr, rfl, k3⟩
  · have E := Lib.hid (N3.out k e' HPL.out hr)
    have k3w : Kps S w w3 := (Kps.of_below (S := S) HB2.out).trans k3 (Gr.refl _ _)
    have b3 : Below n1 w w3 := k3w.below (fun j hj => (H.out.lt j hj).1) hnw
    obtain ⟨J4, k4⟩ := J3.put 17 (.int .i64 k) (e' := e') (nx' := k) rfl ⟨rfl, rfl, rfl, rfl, rfl⟩
    have k4w : Kps S w (w3.setCell ⟨b, 17, none⟩ (.int .i64 k)) := k3w.trans k4 (fun j hj => (g3 j hj).imp id (fun z => Nat.le_trans HB2.out.size z))
    have gw : Gr S w S' := fun j hj => (g3 j hj).imp id (fun z => Nat.le_trans HB2.out.size z)
    have b4 : Below n1 w (w3.setCell ⟨b, 17, none⟩ (.int .i64 k)) := k4w.below (fun j hj => (H.out.lt j hj).1) hnw
    have mc := kn_many (HK.out _ b4).knd hk
    have c3 := J3.rb.cell 17 _ rfl
    have f3 := J3.rb.fz 17
    have bl3 := J3.rb.lt
    have hk9 : (k : Int) < 9 := by omega
    rcases h5 : decide (5 ≤ k) with _ | _
    · have q5 : ¬ 5 ≤ k := of_decide_eq_false h5
      rw [h5] at mc
      obtain ⟨J5, k5⟩ := J4.put 17 (.int .i64 ((k : Int) + 1)) (e' := e') (nx' := k + 1) (by rfl) ⟨rfl, rfl, rfl, rfl, rfl⟩
      have c4 := J4.rb.cell 17 _ rfl
      have f4 := J4.rb.fz 17
      have bl4 := J4.rb.lt
      have Z : Hid ((∃ st' S', TO = some st' ∧ Gr S w S' ∧ Kps S w ((w3.setCell ⟨b, 17, none⟩ (.int .i64 k)).setCell ⟨b, 17, none⟩ (.int .i64 ((k : Int) + 1))) ∧ RdI b n1 e s w.heap.size st' S' ((w3.setCell ⟨b, 17, none⟩ (.int .i64 k)).setCell ⟨b, 17, none⟩ (.int .i64 ((k : Int) + 1))))) := Lib.hid ⟨(e', k + 1), S', by rw [E.out, nxt, if_neg q5], gw, k4w.trans k5 (fun j hj => (g3 j hj).imp id (fun z => Nat.le_trans HB2.out.size z)), s3, J5, N3r.le HB2.out.size⟩
      clear J4 k4 J5 k5 J3 k3 k3w k4w g3 gw b3 b4 hr N2 N3 E H HK HJ2 HL HB2 BN2
      go_wp2
      go_ret
      obtain ⟨st', S2, z1, z2, z3, z4⟩ := Z.out
      exact Or.inl ⟨st', S2, z1, rfl, z2, z3, z4⟩
    · have q5 : 5 ≤ k := of_decide_eq_true h5
      rw [h5] at mc
      have Z : Hid ((∃ st' S', TO = some st' ∧ Gr S w S' ∧ Kps S w (w3.setCell ⟨b, 17, none⟩ (.int .i64 k)) ∧ RdI b n1 e s w.heap.size st' S' (w3.setCell ⟨b, 17, none⟩ (.int .i64 k)))) := Lib.hid ⟨(e', k), S', by rw [E.out, nxt, if_pos q5], gw, k4w, s3, J4, N3r.le HB2.out.size⟩
      clear J4 k4 J3 k3 k3w k4w g3 gw b3 b4 hr N2 N3 E H HK HJ2 HL HB2 BN2
      go_wp2
      go_ret
      obtain ⟨st', S2, z1, z2, z3, z4⟩ := Z.out
      exact Or.inl ⟨st', S2, z1, rfl, z2, z3, z4⟩
  · have E := Lib.hid (N2.out k HPL.out hr)
    have Z := Lib.hid ((Kps.of_below (S := S) HB2.out).trans k3 (Gr.refl _ _))
    clear N2 N3 hr k3 HJ2 H HK
    go_wp2
    go_ret
    exact Or.inr ⟨E.out, rfl, Z.out⟩
end Go.Proofs.YtpplfcfhjpfckaaGreatDoor
