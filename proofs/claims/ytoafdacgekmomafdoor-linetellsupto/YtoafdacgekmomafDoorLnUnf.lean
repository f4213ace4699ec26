/-
  What is proved here: what package line's Unfold answers, for every list of pieces that is not too long (a contract over the translation).
-/
import Derived.Test.YtoafdacgekmomafDoorLnBld
import Derived.Test.YtoafdacgekmomafDoorLnTxs
namespace Go.Proofs.YtoafdacgekmomafDoor
open Go.RowKit Cal Ln

/-- The pieces, as lists of bytes. -/
def pcl (xs : List ByteArray) : List (List UInt8) := xs.map (·.data.toList)
theorem pcl_inj : ∀ {xs ys : List ByteArray}, pcl xs = pcl ys → xs = ys
  | [], [], _ => rfl
  | [], _ :: _, h => by cases h
  | _ :: _, [], h => by cases h
  | x :: xs, y :: ys, h => by
    have h1 := (List.cons.inj h).1
    have h2 := (List.cons.inj h).2
    rw [pcl_inj h2]
    congr 1
    exact ByteArray.ext (Array.ext' h1)
/-- How many bytes they have together. -/
def tot (ps : List (List UInt8)) : Nat := (ps.map List.length).sum
theorem tot_cons (p : List UInt8) (ps : List (List UInt8)) : tot (p :: ps) = p.length + tot ps := by simp [tot]
theorem trim_cons (b : UInt8) (r : List UInt8) : trim (b :: r) = if b = 32 then r else b :: r := by simp [trim]
theorem trim_len (p : List UInt8) : (trim p).length ≤ p.length := by
  cases p with
  | nil => exact Nat.le_refl _
  | cons b r => rw [trim_cons]; split <;> simp
theorem flat_len : ∀ (ps : List (List UInt8)), (ps.flatMap trim).length ≤ tot ps
  | [] => by simp [tot]
  | p :: ps => by
    rw [List.flatMap_cons, List.length_append, tot_cons]
    have := trim_len p
    have := flat_len ps
    omega
theorem unf_len (ps : List (List UInt8)) : (unf ps).length ≤ tot ps := by
  cases ps with
  | nil => simp [unf]
  | cons p ps =>
    show (p ++ ps.flatMap trim).length ≤ _
    rw [List.length_append, tot_cons]
    have := flat_len ps
    omega
theorem tot_take : ∀ (ps : List (List UInt8)) (k : Nat), tot (ps.take k) ≤ tot ps
  | [], k => by simp
  | p :: ps, 0 => by simp [tot]
  | p :: ps, k + 1 => by
    rw [List.take_succ_cons, tot_cons, tot_cons]
    have := tot_take ps k
    omega
/-- What one piece adds. -/
def adds (k : Nat) (p : List UInt8) : List UInt8 := if k = 0 then p else trim p
theorem unf_next {ps : List (List UInt8)} {k : Nat} (h : k < ps.length) : unf (ps.take (k + 1)) = unf (ps.take k) ++ adds k ps[k] := by
  cases ps with
  | nil => simp at h
  | cons p ps =>
    cases k with
    | zero => simp [unf, adds]
    | succ k =>
      have h' : k < ps.length := by simpa using h
      rw [List.take_succ_cons, List.take_succ_cons, List.getElem_cons_succ]
      show p ++ (ps.take (k + 1)).flatMap trim = (p ++ (ps.take k).flatMap trim) ++ (if k + 1 = 0 then _ else _)
      rw [if_neg (by omega), List.take_succ_eq_append_getElem h', List.flatMap_append, List.append_assoc]
      simp
theorem trim_lib (p : List UInt8) : Lib.trimPrefix p [32] = trim p := by
  cases p with
  | nil => rfl
  | cons b r =>
    unfold Lib.trimPrefix Lib.hasPrefix
    rw [trim_cons]
    by_cases h : b = 32
    · subst h; simp
    · rw [if_neg h, if_neg]
      simp [List.isPrefixOf]
      exact fun k => h k.symm
theorem adds_le {ps : List (List UInt8)} {k : Nat} (h : k < ps.length) : (unf (ps.take k)).length + (adds k ps[k]).length ≤ tot ps := by
  have e := congrArg List.length (unf_next h)
  rw [List.length_append] at e
  have a := unf_len (ps.take (k + 1))
  have b := tot_take ps (k + 1)
  omega
/-- What Unfold answers. -/
def unB (xs : List ByteArray) : Bool := decide (fold (unf (pcl xs)) = pcl xs)
def unV (xs : List ByteArray) : ByteArray := if unB xs then tb (unf (pcl xs)) else ⟨#[]⟩
def unF (xs : List ByteArray) : Int := if unB xs then 0 else 2
theorem bytes_app (l : List UInt8) (s : ByteArray) : Lib.byteCells l ++ Lib.strCells s = Lib.byteCells (l ++ s.data.toList) := by simp [Lib.byteCells, Lib.strCells]
set_option maxRecDepth 100000 in
set_option maxHeartbeats 4000000 in
theorem unfold_any (xs : List ByteArray) (v : Value) (w : World) (hv : Txs w v xs) (hl : xs.length ≤ 4194304) (ht : tot (pcl xs) ≤ 4194304) :
    Calls Tryd.prog 13 #[v] w fun e w' => e = .returned (.tuple #[.string (unV xs), fault (unF xs)]) ∧ Below w.heap.size w w' := by
  have HV := Lib.hid hv
  obtain ⟨a, cap, rfl, hc⟩ := hv
  clear hc
  go_enter Tryd.func13, Tryd.ntmps13
  go_wp2
  go_loopw [9] (fun i wr => ∃ k : Nat, k ≤ xs.length ∧ i = .int .i64 k ∧ Lib.IsBuilder 47 5 w.heap.size w.heap.size (Lib.byteCells (unf ((pcl xs).take k))) wr ∧ Below w.heap.size w wr) (fun i _ => xs.length - (intOf i).toNat)
  case atStart => exact ⟨0, Nat.zero_le _, rfl, Lib.fresh_isBuilder _ _ _, (Below.refl _ _).alloc (Nat.le_refl _) _⟩
  case round =>
    obtain ⟨k, hk, rfl, hI, hB⟩ := hrel
    have HI := Lib.hid hI
    clear hI
    by_cases hlt : k < xs.length
    · obtain ⟨a', c', e', hc⟩ := HV.out.on hB
      obtain ⟨rfl, rfl⟩ : a = a' ∧ cap = c' := by simpa using e'
      rcases hc with hc | ⟨b, off, rfl, hc⟩
      · rw [hc] at hlt; simp at hlt
      have q1 := hc k hlt
      obtain ⟨x, hx⟩ : ∃ x, x = xs.getD k ByteArray.empty := ⟨_, rfl⟩
      rw [← hx] at q1
      have hp : k < (pcl xs).length := by unfold pcl; rw [List.length_map]; exact hlt
      have hx2 : (pcl xs)[k] = x.data.toList := by
        rw [hx, List.getD_eq_getElem?_getD, List.getElem?_eq_getElem hlt]
        simp [pcl]
      have UN := unf_next hp
      have AL := adds_le hp
      rw [hx2] at UN AL
      have HU := Lib.hid UN
      have sz := hB.size
      clear hx hc e' hx2 UN hp
      by_cases k0 : k = 0
      · subst k0
        rw [Nat.add_zero] at q1
        have e1 : adds 0 x.data.toList = x.data.toList := rfl
        rw [e1] at AL HU
        clear e1
        have AL2 : (Lib.byteCells (unf ((pcl xs).take 0))).length + x.size ≤ 140737488355328 := by
          rw [Lib.byteCells_length]; have : x.size = x.data.toList.length := rfl; omega
        have HA := Lib.hid AL2
        clear AL AL2
        go_wp2_with fail
        refine (bwrite_any _ _ _ x _ HI.out HA.out sz).mono ?_
        rintro e w1 ⟨rfl, hb1, hb2⟩
        have HN := Lib.hid (Or.inr hb1 : Lib.IsBuilder 47 5 _ _ _ w1)
        rw [bytes_app, ← HU.out] at HN
        have HB := Lib.hid (hB.trans hb2)
        clear hb1 hb2
        go_wp2
        go_roundw
        case rel => exact ⟨1, by omega, by go_num, HN.out, HB.out⟩
        case measure => simp [intOf]; omega
      · have e1 : adds k x.data.toList = trim x.data.toList := by unfold adds; rw [if_neg k0]
        rw [e1] at AL HU
        have kp : 0 < k := by omega
        clear e1 k0
        go_wp2_with fail
        refine (Tryd.strings_TrimPrefix x ⟨#[32]⟩ _).mono ?_
        rintro e w0 ⟨rfl, hw⟩
        subst hw
        rw [trim_lib]
        have AL2 : (Lib.byteCells (unf ((pcl xs).take k))).length + (⟨(trim x.data.toList).toArray⟩ : ByteArray).size ≤ 140737488355328 := by
          rw [Lib.byteCells_length]; have : (⟨(trim x.data.toList).toArray⟩ : ByteArray).size = (trim x.data.toList).length := by simp [ByteArray.size]
          omega
        have HA := Lib.hid AL2
        clear AL AL2
        go_wp2_with fail
        refine (bwrite_any _ _ _ ⟨(trim x.data.toList).toArray⟩ _ HI.out HA.out sz).mono ?_
        rintro e w1 ⟨rfl, hb1, hb2⟩
        have HN := Lib.hid (Or.inr hb1 : Lib.IsBuilder 47 5 _ _ _ w1)
        rw [bytes_app] at HN
        have HN2 : Hid (Lib.IsBuilder 47 5 w.heap.size w.heap.size (Lib.byteCells (unf ((pcl xs).take (k + 1)))) w1) := Lib.hid (by rw [HU.out]; exact HN.out)
        have HB := Lib.hid (hB.trans hb2)
        clear hb1 hb2 HN
        go_wp2
        go_roundw
        case rel => exact ⟨k + 1, by omega, by go_num, HN2.out, HB.out⟩
        case measure => simp [intOf]; omega
    · have ek : (pcl xs).take k = pcl xs := List.take_of_length_le (by unfold pcl; rw [List.length_map]; omega)
      have HF := Lib.hid (Lib.IsBuilderF.of HI.out)
      rw [ek] at HF
      have UL := unf_len (pcl xs)
      have hkl : k = xs.length := by omega
      subst hkl
      have sz := hB.size
      clear HI ek
      go_wp2_with fail
      refine (Tryd.Builder_String_any_f _ _ (unf (pcl xs)) _ HF.out sz).mono ?_
      rintro e w1 ⟨rfl, hF1, hb1⟩
      have HF1 := Lib.hid hF1
      have HB1 := Lib.hid (hB.trans hb1)
      have sz1 := (hB.trans hb1).size
      clear hF1 hb1 HF
      go_wp2_with fail
      refine (fold_any ⟨(unf (pcl xs)).toArray⟩ _ (by show (unf (pcl xs)).toArray.size ≤ _; rw [List.size_toArray]; omega)).mono ?_
      rintro e w2 ⟨hb2, vf, ys, rfl, hown, hys⟩
      have e2 : (⟨(unf (pcl xs)).toArray⟩ : ByteArray).data.toList = unf (pcl xs) := rfl
      rw [e2] at hown hys
      have HF2 := Lib.hid (isF_below HF1.out hb2)
      have HB2 := Lib.hid (HB1.out.trans (hb2.mono sz1))
      have sz2 := HB2.out.size
      have HY := Lib.hid hys
      have lY : ys.length = (fold (unf (pcl xs))).length := by rw [← hys, List.length_map]
      have hp0 : 0 < (fold (unf (pcl xs))).length := by show 0 < (_ :: _).length; simp
      have fl := fold_len (unf (pcl xs))
      obtain ⟨g, cf, rfl, hg, hcf, hcells⟩ := own_texts hown hp0
      have HC := Lib.hid hcells
      clear hcells hys hb2 hown e2 HF1
      obtain ⟨n, hn⟩ : ∃ n, n = (fold (unf (pcl xs))).length := ⟨_, rfl⟩
      rw [← hn] at lY hp0 hcf
      have HNN := Lib.hid hn
      rw [← hn] at fl
      clear hn
      have nb : n ≤ 9223372036854775807 := by omega
      clear fl
      have HEQ : Hid (Calls Tryd.prog 21 #[.slice (some ⟨g, 0, none⟩) n cf, .slice a xs.length cap] w2 fun e w' => e = .returned (.bool (unB xs)) ∧ Below w2.heap.size w2 w') := by
        refine Lib.hid ?_
        by_cases hne : n = xs.length
        · obtain ⟨a', c', e', hc⟩ := HV.out.on HB2.out
          obtain ⟨rfl, rfl⟩ : a = a' ∧ cap = c' := by simpa using e'
          rcases hc with hc | ⟨b, off, rfl, hc⟩
          · rw [hc] at hne; simp at hne; omega
          refine (Tryd.slices_Equal_string g 0 n cf b off xs.length cap ys xs w2 (by omega) (Nat.le_refl _) nb (by omega) (fun j hj => HC.out j _ (by rw [List.getD_eq_getElem?_getD, List.getElem?_eq_getElem hj]; rfl)) hc).mono ?_
          rintro e w' ⟨rfl, q, rfl⟩
          refine ⟨?_, tx_drewN (Below.refl _ _) _⟩
          congr 2
          unfold unB
          rw [List.take_of_length_le (by omega), List.take_of_length_le (Nat.le_refl _)]
          apply decide_eq_decide.2
          constructor
          · intro h
            rw [← HY.out, h]; rfl
          · intro h
            exact pcl_inj (by rw [← h]; exact HY.out)
        · refine (Tryd.slices_Equal_string_lens _ _ n cf xs.length cap w2 hne).mono ?_
          rintro e w' ⟨rfl, rfl⟩
          refine ⟨?_, Below.refl _ _⟩
          have : unB xs = false := by
            unfold unB
            rw [decide_eq_false_iff_not]
            intro h
            apply hne
            rw [HNN.out, h]
            simp [pcl]
          rw [this]
      rw [← HNN.out]
      go_wp2_with fail
      refine HEQ.out.mono ?_
      rintro e w3 ⟨rfl, hb3⟩
      have HF3 := Lib.hid (isF_below HF2.out hb3)
      have HB3 := Lib.hid (HB2.out.trans (hb3.mono sz2))
      have sz3 := HB3.out.size
      clear hb3 HF2 HEQ
      rcases hu : unB xs with _ | _
      · have E1 := Lib.hid (show unV xs = ⟨#[]⟩ by unfold unV; rw [hu]; rfl)
        have E2 := Lib.hid (show unF xs = 2 by unfold unF; rw [hu]; rfl)
        go_wp2
        go_ret2
        exact ⟨by rw [E1.out, E2.out]; rfl, HB3.out⟩
      · have E1 := Lib.hid (show unV xs = tb (unf (pcl xs)) by unfold unV; rw [hu]; rfl)
        have E2 := Lib.hid (show unF xs = 0 by unfold unF; rw [hu]; rfl)
        go_wp2_with fail
        refine (Tryd.Builder_String_any_f _ _ (unf (pcl xs)) _ HF3.out sz3).mono ?_
        rintro e w4 ⟨rfl, _, hb4⟩
        have HB4 := Lib.hid (HB3.out.trans hb4)
        clear hb4
        go_wp2
        go_ret2
        exact ⟨by rw [E1.out, E2.out]; rfl, HB4.out⟩
end Go.Proofs.YtoafdacgekmomafDoor
