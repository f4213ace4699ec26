/-
  What is proved here: chimelaw2.LineBack returns true for every text and every list of texts that are not too long (a contract over the translation; the marked bytes are asked as a premise).
-/
import Derived.Test.YtoafdacgekmomafDoorLnPair
import Derived.Deep.CutRange
namespace Go.Proofs.YtoafdacgekmomafDoor
open Go.RowKit Cal Ln

theorem tb_self (s : ByteArray) : tb s.data.toList = s := rfl
/-- What is told of a text that is none. -/
abbrev errSyntax : Value := .iface 43 (.int .i64 2)
theorem plain_ok {s : ByteArray} {c : List UInt8} {w : World} (hM : Mrk w) (hs : s.size ≤ 4194304) (h : pln s.data.toList = some c) :
    Calls Tryd.prog 7 #[.string s] w fun e w' => e = .returned (.tuple #[.string (tb c), .nilIface]) ∧ Below w.heap.size w w' := by
  have K := plain_any s w hM hs
  rw [plV_some h, plF_some h] at K
  exact K
theorem plain_no {s : ByteArray} {w : World} (hM : Mrk w) (hs : s.size ≤ 4194304) (h : pln s.data.toList = none) :
    Calls Tryd.prog 7 #[.string s] w fun e w' => e = .returned (.tuple #[.string ⟨#[]⟩, errSyntax]) ∧ Below w.heap.size w w' := by
  have K := plain_any s w hM hs
  rw [plV_none h, plF_none h] at K
  exact K
theorem unfold_ok {xs : List ByteArray} {v : Value} {w : World} (hv : Txs w v xs) (hl : xs.length ≤ 4194304) (ht : tot (pcl xs) ≤ 4194304) (h : fold (unf (pcl xs)) = pcl xs) :
    Calls Tryd.prog 13 #[v] w fun e w' => e = .returned (.tuple #[.string (tb (unf (pcl xs))), .nilIface]) ∧ Below w.heap.size w w' := by
  have K := unfold_any xs v w hv hl ht
  have hb : unB xs = true := decide_eq_true h
  rw [show unV xs = tb (unf (pcl xs)) by unfold unV; rw [hb]; rfl, show unF xs = 0 by unfold unF; rw [hb]; rfl] at K
  exact K
theorem unfold_no {xs : List ByteArray} {v : Value} {w : World} (hv : Txs w v xs) (hl : xs.length ≤ 4194304) (ht : tot (pcl xs) ≤ 4194304) (h : ¬ fold (unf (pcl xs)) = pcl xs) :
    Calls Tryd.prog 13 #[v] w fun e w' => e = .returned (.tuple #[.string ⟨#[]⟩, errSyntax]) ∧ Below w.heap.size w w' := by
  have K := unfold_any xs v w hv hl ht
  have hb : unB xs = false := decide_eq_false h
  rw [show unV xs = ⟨#[]⟩ by unfold unV; rw [hb]; rfl, show unF xs = 2 by unfold unF; rw [hb]; rfl] at K
  exact K
theorem pair_ok {s : ByteArray} {w : World} (hs : s.size ≤ 140737488355328) (h : paB s = true) :
    Calls Tryd.prog 15 #[.string s] w fun e w' => e = .returned (.tuple #[.string (ctA 58 s), .string (ctB 58 s), .nilIface]) ∧ Below w.heap.size w w' := by
  have K := pair_any s w hs
  rw [show paK s = ctA 58 s by unfold paK; rw [h]; rfl, show paV s = ctB 58 s by unfold paV; rw [h]; rfl, show paF s = 0 by unfold paF; rw [h]; rfl] at K
  exact K
theorem pair_no {s : ByteArray} {w : World} (hs : s.size ≤ 140737488355328) (h : paB s = false) :
    Calls Tryd.prog 15 #[.string s] w fun e w' => e = .returned (.tuple #[.string ⟨#[]⟩, .string ⟨#[]⟩, errSyntax]) ∧ Below w.heap.size w w' := by
  have K := pair_any s w hs
  rw [show paK s = ⟨#[]⟩ by unfold paK; rw [h]; rfl, show paV s = ⟨#[]⟩ by unfold paV; rw [h]; rfl, show paF s = 2 by unfold paF; rw [h]; rfl] at K
  exact K
theorem pair_join {s : ByteArray} (h : paB s = true) : ctA 58 s ++ ⟨#[58]⟩ ++ ctB 58 s = s := by
  have hf : ctF 58 s = true := by unfold paB at h; exact (Bool.and_eq_true _ _ ▸ h).1
  have hk : at1 58 s.data.toList < s.size := of_decide_eq_true hf
  have e1 : ctA 58 s = s.extract 0 (at1 58 s.data.toList) := if_pos hk
  have e2 : ctB 58 s = s.extract (at1 58 s.data.toList + 1) s.size := if_pos hk
  have e := at1_hit 58 (l := s.data.toList) hk
  apply ByteArray.ext
  apply Array.ext'
  rw [e1, e2]
  have a1 : (s.extract 0 (at1 58 s.data.toList)).data.toList = s.data.toList.take (at1 58 s.data.toList) := by simp
  have a2 := ln_drop2 s (at1 58 s.data.toList + 1)
  show ((s.extract 0 (at1 58 s.data.toList)) ++ ⟨#[58]⟩ ++ (s.extract (at1 58 s.data.toList + 1) s.size)).data.toList = _
  rw [ByteArray.data_append, Array.toList_append, ByteArray.data_append, Array.toList_append, a1, a2, List.append_assoc]
  exact e.symm
theorem ct_len {s : ByteArray} (h : paB s = true) : (ctA 58 s).size + 1 + (ctB 58 s).size = s.size := by
  have := congrArg ByteArray.size (pair_join h)
  rw [ByteArray.size_append, ByteArray.size_append] at this
  exact this
theorem esc_ab : tb (esc [97, 59, 98]) = ⟨#[97, 92, 59, 98]⟩ := rfl
theorem fold_nil : (fold ([] : List UInt8)).length = 1 := by rw [fold_len]; rfl
theorem tot_fold (l : List UInt8) (h : l.length ≤ 2097152) : tot (fold l) ≤ 4194304 := by
  have key : ∀ (n : Nat) (x : List UInt8), x.length ≤ n → tot (fr x) ≤ x.length + (fr x).length := by
    intro n
    induction n with
    | zero => intro x hx; have : x = [] := List.eq_nil_of_length_eq_zero (by omega); subst this; rw [fr_nil]; simp [tot]
    | succ n ih =>
      intro x hx
      by_cases h0 : x = []
      · subst h0; rw [fr_nil]; simp [tot]
      · have hp := List.length_pos_iff.2 h0
        rw [fr_cons h0, tot_cons]
        have := ih (x.drop 39) (by rw [List.length_drop]; omega)
        rw [List.length_cons, List.length_cons, List.length_take, List.length_drop] at *
        omega
  have a := key _ (l.drop 40) (Nat.le_refl _)
  have b := fr_len _ (l.drop 40) (Nat.le_refl _)
  show tot (l.take 40 :: fr (l.drop 40)) ≤ _
  rw [tot_cons, List.length_take]
  rw [List.length_drop] at a b
  omega
set_option maxRecDepth 100000 in
set_option maxHeartbeats 4000000 in
theorem lineBack_any (s : ByteArray) (v : Value) (xs : List ByteArray) (w : World) (hM : Mrk w) (hv : Txs w v xs) (hs : s.size ≤ 1048576) (hl : xs.length ≤ 1048576) (ht : tot (pcl xs) ≤ 1048576) :
    Calls Tryd.prog 4 #[.string s, v] w fun e w' => e = .returned (.bool true) ∧ Below w.heap.size w w' := by
  have HV := Lib.hid hv
  have HM := Lib.hid hM
  clear hv hM
  go_enter Tryd.func4, Tryd.ntmps4
  go_wp2_with fail
  refine (escape_any ⟨#[97, 59, 98]⟩ _ HM.out (by decide)).mono ?_
  rintro e w1 ⟨rfl, hb1⟩
  rw [show (⟨#[97, 59, 98]⟩ : ByteArray).data.toList = [97, 59, 98] from rfl, esc_ab]
  have B1 := Lib.hid hb1
  clear hb1
  go_wp2_with fail
  refine (fold_any ⟨#[]⟩ _ (by decide)).mono ?_
  rintro e w2 ⟨hb2, v2, ys2, rfl, hown2, _⟩
  rw [show (fold (⟨#[]⟩ : ByteArray).data.toList).length = 1 from fold_nil] at hown2
  obtain ⟨g2, c2, rfl, _, _, _⟩ := own_texts hown2 (by decide)
  have B2 := Lib.hid (B1.out.trans (hb2.mono B1.out.size))
  clear hb2 hown2 B1
  go_wp2_with fail
  refine (escape_any s _ (HM.out.below B2.out) (by omega)).mono ?_
  rintro e w3 ⟨rfl, hb3⟩
  have B3 := Lib.hid (B2.out.trans (hb3.mono B2.out.size))
  clear hb3 B2
  have el := esc_len s.data.toList
  have el2 : (tb (esc s.data.toList)).size ≤ 4194304 := by
    show (esc s.data.toList).toArray.size ≤ _
    rw [List.size_toArray]
    have : s.data.toList.length = s.size := rfl
    omega
  clear el
  go_wp2_with fail
  refine (plain_ok (c := s.data.toList) (HM.out.below B3.out) el2 (by rw [tb_data]; exact pln_esc _)).mono ?_
  rintro e w4 ⟨rfl, hb4⟩
  rw [tb_self]
  have B4 := Lib.hid (B3.out.trans (hb4.mono B3.out.size))
  clear hb4 B3 el2
  go_wp2_with fail
  refine (fold_any s _ (by omega)).mono ?_
  rintro e w5 ⟨hb5, v5, ys, rfl, hown5, hys⟩
  have B5 := Lib.hid (B4.out.trans (hb5.mono B4.out.size))
  clear hb5 B4
  have hys' : pcl ys = fold s.data.toList := hys
  have ly : ys.length = (fold s.data.toList).length := by rw [← hys, List.length_map]
  have fl := fold_len s.data.toList
  rw [show s.data.toList.length = s.size from rfl] at fl
  have ly2 : ys.length ≤ 4194304 := by omega
  have ly3 : 0 < ys.length := by omega
  clear fl
  have HT5 := Lib.hid (own_txs hown5)
  have HY := Lib.hid hys'
  rw [← ly] at hown5
  obtain ⟨g5, c5, rfl, hg5, hc5, hcells⟩ := own_texts hown5 ly3
  have HC := Lib.hid hcells
  clear hys hys' hown5 hcells
  have HL5 := Lib.hid ly
  clear ly
  go_wp2_with fail
  refine (unfold_ok HT5.out ly2 (by rw [HY.out]; exact tot_fold _ (by show s.size ≤ _; omega)) (by rw [HY.out, unf_fold])).mono ?_
  rintro e w6 ⟨rfl, hb6⟩
  rw [HY.out, unf_fold, tb_self]
  have B6 := Lib.hid (B5.out.trans (hb6.mono B5.out.size))
  have HT6 := Lib.hid (HT5.out.on hb6)
  clear hb6 B5 HC HT5
  go_wp2_with fail
  go_loop [4, 11] (fun r i => ∃ k : Nat, k ≤ ys.length ∧ r = .bool false ∧ i = .int .i64 k) (fun _ i => ys.length - (intOf i).toNat)
  case atStart => exact ⟨0, Nat.zero_le _, rfl, rfl⟩
  case round =>
    obtain ⟨k, hk, rfl, rfl⟩ := hrel
    by_cases hlt : k < ys.length
    · obtain ⟨a', c', e', hc⟩ := HT6.out
      rcases hc with hc | ⟨b, off, ea, hc⟩
      · rw [hc] at hlt; simp at hlt
      obtain ⟨⟨rfl, rfl⟩, rfl⟩ : (g5 = b ∧ 0 = off) ∧ c5 = c' := by simpa [ea] using e'
      have q1 := hc k hlt
      obtain ⟨x, hx⟩ : ∃ x, x = ys.getD k ByteArray.empty := ⟨_, rfl⟩
      rw [← hx, Nat.zero_add] at q1
      have x40 : x.size ≤ 40 := by
        have m : x.data.toList ∈ fold s.data.toList := by
          rw [← HY.out, hx, List.getD_eq_getElem?_getD, List.getElem?_eq_getElem hlt]
          exact List.mem_map_of_mem (List.getElem_mem hlt)
        exact fold_most _ _ m
      have x41 : ¬ (40 : Int) < (x.size : Int) := by omega
      clear hx hc ea e'
      go_wp2
      go_round
      case rel => exact ⟨k + 1, by omega, rfl, by go_num⟩
      case measure => simp [intOf]; omega
    · have B6' := B6
      clear HT6 HL5 HY hg5 hc5 B6
      cases hp : pln s.data.toList with
      | some c =>
        have HP := Lib.hid hp
        clear hp
        have cl := pln_len _ (Nat.le_refl _) HP.out
        rw [show s.data.toList.length = s.size from rfl] at cl
        go_wp2_with fail
        refine (plain_ok (HM.out.below B6'.out) (by omega) HP.out).mono ?_
        rintro e w7 ⟨rfl, hb7⟩
        have B7' := Lib.hid (B6'.out.trans (hb7.mono B6'.out.size))
        clear hb7
        go_wp2_with fail
        refine (escape_any (tb c) _ (HM.out.below B7'.out) (by show c.toArray.size ≤ _; rw [List.size_toArray]; omega)).mono ?_
        rintro e w8 ⟨rfl, hb8⟩
        rw [tb_data, pln_back _ (Nat.le_refl _) HP.out, tb_self]
        have B7 := Lib.hid (B7'.out.trans (hb8.mono B7'.out.size))
        clear hb8 B7' cl
        by_cases hu : fold (unf (pcl xs)) = pcl xs
        · have HU := Lib.hid hu
          clear hu
          go_wp2_with fail
          refine (unfold_ok (HV.out.on B7.out) (by omega) (by omega) HU.out).mono ?_
          rintro e wA ⟨rfl, hbA⟩
          have BA := Lib.hid (B7.out.trans (hbA.mono B7.out.size))
          clear hbA
          have ul := unf_len (pcl xs)
          go_wp2_with fail
          refine (fold_any (tb (unf (pcl xs))) _ (by show (unf (pcl xs)).toArray.size ≤ _; rw [List.size_toArray]; omega)).mono ?_
          rintro e wB ⟨hbB, vB, zs, rfl, hownB, hzs⟩
          have BB := Lib.hid (BA.out.trans (hbB.mono BA.out.size))
          have ez : zs = xs := pcl_inj (by show zs.map _ = _; rw [hzs, tb_data, HU.out])
          have HTB := Lib.hid (own_txs hownB)
          rw [ez] at HTB
          clear hbB hownB hzs ez ul
          go_wp2_with fail
          refine (sameTexts xs _ _ _ HTB.out (HV.out.on BB.out) (by omega)).mono ?_
          rintro e wC ⟨rfl, hbC⟩
          have B8 := Lib.hid (BB.out.trans (hbC.mono BB.out.size))
          clear hbC BA BB HTB
          cases hpb : paB s with
          | true =>
            have pj := Lib.hid (pair_join hpb)
            have pl := ct_len hpb
            go_wp2_with fail
            refine (pair_ok (by omega) hpb).mono ?_
            rintro e w9 ⟨rfl, hb9⟩
            have B9 := Lib.hid (B8.out.trans (hb9.mono B8.out.size))
            clear hb9 hpb
            go_wp2
            go_ret
            exact ⟨ret_bool (by rw [pj.out]; simp), B9.out⟩
          | false =>
            go_wp2_with fail
            refine (pair_no (by omega) hpb).mono ?_
            rintro e w9 ⟨rfl, hb9⟩
            have B9 := Lib.hid (B8.out.trans (hb9.mono B8.out.size))
            clear hb9 hpb
            go_wp2
            go_ret
            exact ⟨rfl, B9.out⟩
        · have HU := Lib.hid hu
          clear hu
          go_wp2_with fail
          refine (unfold_no (HV.out.on B7.out) (by omega) (by omega) HU.out).mono ?_
          rintro e wA ⟨rfl, hbA⟩
          have B8 := Lib.hid (B7.out.trans (hbA.mono B7.out.size))
          clear hbA
          cases hpb : paB s with
          | true =>
            have pj := Lib.hid (pair_join hpb)
            have pl := ct_len hpb
            go_wp2_with fail
            refine (pair_ok (by omega) hpb).mono ?_
            rintro e w9 ⟨rfl, hb9⟩
            have B9 := Lib.hid (B8.out.trans (hb9.mono B8.out.size))
            clear hb9 hpb
            go_wp2
            go_ret
            exact ⟨ret_bool (by rw [pj.out]; simp), B9.out⟩
          | false =>
            go_wp2_with fail
            refine (pair_no (by omega) hpb).mono ?_
            rintro e w9 ⟨rfl, hb9⟩
            have B9 := Lib.hid (B8.out.trans (hb9.mono B8.out.size))
            clear hb9 hpb
            go_wp2
            go_ret
            exact ⟨rfl, B9.out⟩
      | none =>
        have HP := Lib.hid hp
        clear hp
        go_wp2_with fail
        refine (plain_no (HM.out.below B6'.out) (by omega) HP.out).mono ?_
        rintro e w7 ⟨rfl, hb7⟩
        have B7 := Lib.hid (B6'.out.trans (hb7.mono B6'.out.size))
        clear hb7
        by_cases hu : fold (unf (pcl xs)) = pcl xs
        · have HU := Lib.hid hu
          clear hu
          go_wp2_with fail
          refine (unfold_ok (HV.out.on B7.out) (by omega) (by omega) HU.out).mono ?_
          rintro e wA ⟨rfl, hbA⟩
          have BA := Lib.hid (B7.out.trans (hbA.mono B7.out.size))
          clear hbA
          have ul := unf_len (pcl xs)
          go_wp2_with fail
          refine (fold_any (tb (unf (pcl xs))) _ (by show (unf (pcl xs)).toArray.size ≤ _; rw [List.size_toArray]; omega)).mono ?_
          rintro e wB ⟨hbB, vB, zs, rfl, hownB, hzs⟩
          have BB := Lib.hid (BA.out.trans (hbB.mono BA.out.size))
          have ez : zs = xs := pcl_inj (by show zs.map _ = _; rw [hzs, tb_data, HU.out])
          have HTB := Lib.hid (own_txs hownB)
          rw [ez] at HTB
          clear hbB hownB hzs ez ul
          go_wp2_with fail
          refine (sameTexts xs _ _ _ HTB.out (HV.out.on BB.out) (by omega)).mono ?_
          rintro e wC ⟨rfl, hbC⟩
          have B8 := Lib.hid (BB.out.trans (hbC.mono BB.out.size))
          clear hbC BA BB HTB
          cases hpb : paB s with
          | true =>
            have pj := Lib.hid (pair_join hpb)
            have pl := ct_len hpb
            go_wp2_with fail
            refine (pair_ok (by omega) hpb).mono ?_
            rintro e w9 ⟨rfl, hb9⟩
            have B9 := Lib.hid (B8.out.trans (hb9.mono B8.out.size))
            clear hb9 hpb
            go_wp2
            go_ret
            exact ⟨ret_bool (by rw [pj.out]; simp), B9.out⟩
          | false =>
            go_wp2_with fail
            refine (pair_no (by omega) hpb).mono ?_
            rintro e w9 ⟨rfl, hb9⟩
            have B9 := Lib.hid (B8.out.trans (hb9.mono B8.out.size))
            clear hb9 hpb
            go_wp2
            go_ret
            exact ⟨rfl, B9.out⟩
        · have HU := Lib.hid hu
          clear hu
          go_wp2_with fail
          refine (unfold_no (HV.out.on B7.out) (by omega) (by omega) HU.out).mono ?_
          rintro e wA ⟨rfl, hbA⟩
          have B8 := Lib.hid (B7.out.trans (hbA.mono B7.out.size))
          clear hbA
          cases hpb : paB s with
          | true =>
            have pj := Lib.hid (pair_join hpb)
            have pl := ct_len hpb
            go_wp2_with fail
            refine (pair_ok (by omega) hpb).mono ?_
            rintro e w9 ⟨rfl, hb9⟩
            have B9 := Lib.hid (B8.out.trans (hb9.mono B8.out.size))
            clear hb9 hpb
            go_wp2
            go_ret
            exact ⟨ret_bool (by rw [pj.out]; simp), B9.out⟩
          | false =>
            go_wp2_with fail
            refine (pair_no (by omega) hpb).mono ?_
            rintro e w9 ⟨rfl, hb9⟩
            have B9 := Lib.hid (B8.out.trans (hb9.mono B8.out.size))
            clear hb9 hpb
            go_wp2
            go_ret
            exact ⟨rfl, B9.out⟩
end Go.Proofs.YtoafdacgekmomafDoor
