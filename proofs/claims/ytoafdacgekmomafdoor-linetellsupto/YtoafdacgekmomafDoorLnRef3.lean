/-
  What is proved here: what the document's Unfold answers, for every list of pieces that is not too long (a contract over the translation).
-/
import Derived.Test.YtoafdacgekmomafDoorLnRef2
namespace Go.Proofs.YtoafdacgekmomafDoor
open Go.RowKit Cal Ln

theorem tot_app (a b : List (List UInt8)) : tot (a ++ b) = tot a + tot b := by simp [tot]
theorem pcl_at {xs : List ByteArray} {k : Nat} (hlt : k < xs.length) (hp : k < (pcl xs).length) : (pcl xs)[k] = (xs.getD k ByteArray.empty).data.toList := by
  rw [List.getD_eq_getElem?_getD, List.getElem?_eq_getElem hlt]
  simp [pcl]
theorem head_of (x : ByteArray) (h : 0 < x.size) : x.data.toList.head? = some x[0] := by
  obtain ⟨r, hr⟩ := one_of x h
  rw [hr]; rfl
/-- What stands there cannot. -/
theorem un_bad {xs : List ByteArray} {x : ByteArray} {k : Nat} (hlt : k < xs.length) (hx : x = xs.getD k ByteArray.empty) (h : ¬ gd xs.length k x.data.toList) : unB xs = false := by
  have hp : k < (pcl xs).length := by unfold pcl; rw [List.length_map]; exact hlt
  refine unB_no k hp ?_
  rw [pcl_at hlt hp, ← hx, show (pcl xs).length = xs.length from List.length_map _]
  exact h
theorem unV_no {xs : List ByteArray} (h : unB xs = false) : unV xs = ⟨#[]⟩ := by unfold unV; rw [h]; rfl
theorem unV_yes {xs : List ByteArray} (h : unB xs = true) : unV xs = tb (unf (pcl xs)) := by unfold unV; rw [h]; rfl
theorem adds_one {x : ByteArray} (h : 0 < x.size) (h32 : x[0] = 32) (k : Nat) (hk : 0 < k) : adds k x.data.toList = (x.extract 1 x.size).data.toList := by
  obtain ⟨r, hr⟩ := one_of x h
  rw [ln_drop2, hr, h32]
  unfold adds
  rw [if_neg (by omega), trim_cons, if_pos rfl]; rfl
set_option maxRecDepth 100000 in
set_option maxHeartbeats 4000000 in
theorem refUnf_any (xs : List ByteArray) (v : Value) (w : World) (hv : Txs w v xs) (hl : xs.length ≤ 4194304) (ht : tot (pcl xs) ≤ 4194304) :
    Calls Tryd.prog 12 #[v] w fun e w' => e = .returned (.tuple #[.string (unV xs), .bool (unB xs)]) ∧ w' = w := by
  have HV := Lib.hid hv
  obtain ⟨a, cap, rfl, hc⟩ := hv
  clear hc
  go_enter Tryd.func12, Tryd.ntmps12
  go_wp2
  go_loop [4, 5] (fun o i => ∃ (k : Nat) (t : ByteArray), k ≤ xs.length ∧ i = .int .i64 k ∧ o = .string t ∧ t.data.toList = unf ((pcl xs).take k) ∧ ∀ j (hj : j < (pcl xs).length), j < k → gd (pcl xs).length j (pcl xs)[j]) (fun _ i => xs.length - (intOf i).toNat)
  case atStart => exact ⟨0, ⟨#[]⟩, Nat.zero_le _, rfl, rfl, rfl, fun j _ h => absurd h (Nat.not_lt_zero _)⟩
  case round =>
    obtain ⟨k, t, hk, rfl, rfl, hT, hG⟩ := hrel
    have HT := Lib.hid hT
    have HG := Lib.hid hG
    have tl : t.size ≤ 4194304 := by
      rw [size_of_list hT]
      exact Nat.le_trans (unf_len _) (Nat.le_trans (tot_take _ _) ht)
    clear hT hG
    by_cases hlt : k < xs.length
    · obtain ⟨a', c', e', hc⟩ := HV.out
      obtain ⟨rfl, rfl⟩ : a = a' ∧ cap = c' := by simpa using e'
      rcases hc with hc | ⟨b, off, rfl, hc⟩
      · rw [hc] at hlt; simp at hlt
      have q1 := hc k hlt
      obtain ⟨x, hx⟩ : ∃ x, x = xs.getD k ByteArray.empty := ⟨_, rfl⟩
      rw [← hx] at q1
      have hp : k < (pcl xs).length := by unfold pcl; rw [List.length_map]; exact hlt
      have hpx : (pcl xs)[k] = x.data.toList := by rw [pcl_at hlt hp, ← hx]
      have HBd := Lib.hid (fun h => un_bad hlt hx h : ¬ gd xs.length k x.data.toList → unB xs = false)
      have UN := Lib.hid (show unf ((pcl xs).take (k + 1)) = unf ((pcl xs).take k) ++ adds k x.data.toList by rw [← hpx]; exact unf_next hp)
      have AL := adds_le hp
      rw [hpx] at AL
      have HA := Lib.hid AL
      have NX := Lib.hid (show gd xs.length k x.data.toList → ∀ j (hj : j < (pcl xs).length), j < k + 1 → gd (pcl xs).length j (pcl xs)[j] from fun g j hj h => by
        rcases Nat.lt_or_ge j k with q | q
        · exact HG.out j hj q
        · obtain rfl : j = k := by omega
          rw [hpx, show (pcl xs).length = xs.length from List.length_map _]
          exact g)
      have xl : x.data.toList.length = x.size := rfl
      have xb : x.size ≤ 4194304 := by
        have h1 := tot_app ((pcl xs).take k) ((pcl xs).drop k)
        rw [List.take_append_drop] at h1
        rw [List.drop_eq_getElem_cons hp, hpx, tot_cons] at h1
        omega
      have HXL := Lib.hid xl
      clear hx hc e' hp hpx AL xl HG
      by_cases h40 : 40 < x.size
      · have E := Lib.hid (HBd.out (fun g => by have := g.1; rw [HXL.out] at this; omega))
        have p1 : decide ((40 : Int) < (x.size : Int)) = true := decide_eq_true (by omega)
        go_wp2
        go_ret2
        exact ⟨by rw [unV_no E.out, E.out]; rfl, rfl⟩
      have p1 : decide ((40 : Int) < (x.size : Int)) = false := decide_eq_false (by omega)
      by_cases hla : k + 1 = xs.length
      · have p2 : ((k : Int) == (xs.length : Int) - 1) = true := by rw [beq_iff_eq]; omega
        by_cases k0 : k = 0
        · subst k0
          rw [Nat.add_zero] at q1
          have p4 : decide ((0 : Int) < ((0 : Nat) : Int)) = false := rfl
          have GD := Lib.hid (NX.out ⟨by rw [HXL.out]; omega, Or.inl hla, Or.inl rfl⟩)
          have AD := Lib.hid (show adds 0 x.data.toList = x.data.toList from rfl)
          go_wp2
          go_round
          case rel => exact ⟨1, _, by omega, by go_num, rfl, by rw [app_list, HT.out, UN.out, AD.out], GD.out⟩
          case measure => simp [intOf]; omega
        have kp : 0 < k := by omega
        have p4 : decide ((0 : Int) < (k : Int)) = true := decide_eq_true (by omega)
        by_cases xz : x.size = 0
        · have p5 : x.toList.isEmpty = true := by rw [ByteArray.toList_eq]; simpa using nil_of_size xz
          have E := Lib.hid (HBd.out (fun g => by exact g.2.2.elim (fun q => by omega) (fun q => by rw [HXL.out] at q; omega)))
          go_wp2
          go_ret2
          exact ⟨by rw [unV_no E.out, E.out]; rfl, rfl⟩
        have xp : 0 < x.size := by omega
        have p5 : x.toList.isEmpty = false := by rw [ByteArray.toList_eq]; simpa using ne_of_size (by omega)
        have HH := Lib.hid (head_of x xp)
        by_cases h32 : x[0] = 32
        · have p6 : ((x[0].toNat : Int) != 32) = false := by rw [h32]; rfl
          by_cases x2 : x.size < 2
          · have p7 : decide ((x.size : Int) < 2) = true := decide_eq_true (by omega)
            have E := Lib.hid (HBd.out (fun g => by exact g.2.2.elim (fun q => by omega) (fun q => by rw [HXL.out] at q; omega)))
            go_wp2
            go_ret2
            exact ⟨by rw [unV_no E.out, E.out]; rfl, rfl⟩
          · have p7 : decide ((x.size : Int) < 2) = false := decide_eq_false (by omega)
            have GD := Lib.hid (NX.out ⟨by rw [HXL.out]; omega, Or.inl hla, Or.inr ⟨by rw [HXL.out]; omega, by rw [HH.out, h32]⟩⟩)
            have AD := Lib.hid (adds_one xp h32 k kp)
            have xe : (x.extract 1 x.size).size ≤ 4194304 := by simp; omega
            go_wp2
            go_round
            case rel => exact ⟨k + 1, _, by omega, by go_num, rfl, by rw [app_list, HT.out, UN.out, AD.out], GD.out⟩
            case measure => simp [intOf]; omega
        · have p6 : ((x[0].toNat : Int) != 32) = true := u8m h32
          have E := Lib.hid (HBd.out (fun g => by exact g.2.2.elim (fun q => by omega) (fun q => by rw [HH.out] at q; exact h32 (Option.some.inj q.2))))
          go_wp2
          go_ret2
          exact ⟨by rw [unV_no E.out, E.out]; rfl, rfl⟩
      · have p2 : ((k : Int) == (xs.length : Int) - 1) = false := by rw [beq_eq_false_iff_ne]; omega
        by_cases h4 : x.size = 40
        · have p3 : ((x.size : Int) != 40) = false := by rw [h4]; decide
          have H4 := Lib.hid h4
          have h4a : 40 ≤ x.size := by omega
          clear h4
          by_cases k0 : k = 0
          · subst k0
            rw [Nat.add_zero] at q1
            have p4 : decide ((0 : Int) < ((0 : Nat) : Int)) = false := rfl
            have GD := Lib.hid (NX.out ⟨by rw [HXL.out]; omega, Or.inr (by rw [HXL.out]; exact H4.out), Or.inl rfl⟩)
            have AD := Lib.hid (show adds 0 x.data.toList = x.data.toList from rfl)
            go_wp2
            go_round
            case rel => exact ⟨1, _, by omega, by go_num, rfl, by rw [app_list, HT.out, UN.out, AD.out], GD.out⟩
            case measure => simp [intOf]; omega
          have kp : 0 < k := by omega
          have p4 : decide ((0 : Int) < (k : Int)) = true := decide_eq_true (by omega)
          have xp : 0 < x.size := by omega
          have p5 : x.toList.isEmpty = false := by rw [ByteArray.toList_eq]; simpa using ne_of_size (by omega)
          have HH := Lib.hid (head_of x xp)
          by_cases h32 : x[0] = 32
          · have p6 : ((x[0].toNat : Int) != 32) = false := by rw [h32]; rfl
            have p7 : decide ((x.size : Int) < 2) = false := decide_eq_false (by omega)
            have GD := Lib.hid (NX.out ⟨by rw [HXL.out]; omega, Or.inr (by rw [HXL.out]; exact H4.out), Or.inr ⟨by rw [HXL.out]; omega, by rw [HH.out, h32]⟩⟩)
            have AD := Lib.hid (adds_one xp h32 k kp)
            have xe : (x.extract 1 x.size).size ≤ 4194304 := by simp; omega
            go_wp2
            go_round
            case rel => exact ⟨k + 1, _, by omega, by go_num, rfl, by rw [app_list, HT.out, UN.out, AD.out], GD.out⟩
            case measure => simp [intOf]; omega
          · have p6 : ((x[0].toNat : Int) != 32) = true := u8m h32
            have E := Lib.hid (HBd.out (fun g => by exact g.2.2.elim (fun q => by omega) (fun q => by rw [HH.out] at q; exact h32 (Option.some.inj q.2))))
            go_wp2
            go_ret2
            exact ⟨by rw [unV_no E.out, E.out]; rfl, rfl⟩
        · have p3 : ((x.size : Int) != 40) = true := by rw [bne_iff_ne]; omega
          have E := Lib.hid (HBd.out (fun g => by exact g.2.1.elim (fun q => by omega) (fun q => by rw [HXL.out] at q; omega)))
          go_wp2
          go_ret2
          exact ⟨by rw [unV_no E.out, E.out]; rfl, rfl⟩
    · rcases Nat.eq_zero_or_pos xs.length with h0 | h0
      · have hxn : xs = [] := List.eq_nil_of_length_eq_zero h0
        have E := Lib.hid (show unB xs = false by rw [hxn]; exact unB_nil)
        obtain rfl : k = 0 := by omega
        have ET := Lib.hid (show t = ⟨#[]⟩ from tb_of HT.out)
        have p0 : ¬ (0 : Int) < (xs.length : Int) := by omega
        clear hxn
        go_wp2
        go_ret2
        exact ⟨by rw [unV_no E.out, E.out, ← ET.out]; rfl, rfl⟩
      · have ek : (pcl xs).take k = pcl xs := List.take_of_length_le (by unfold pcl; rw [List.length_map]; omega)
        have E := Lib.hid (unB_yes h0 (fun j hj => HG.out j hj (by unfold pcl at hj; rw [List.length_map] at hj; omega)))
        have ET := Lib.hid (show t = tb (unf (pcl xs)) from tb_of (by rw [HT.out, ek]))
        clear ek
        go_wp2
        go_ret2
        exact ⟨by rw [unV_yes E.out, E.out, ← ET.out]; rfl, rfl⟩
end Go.Proofs.YtoafdacgekmomafDoor
