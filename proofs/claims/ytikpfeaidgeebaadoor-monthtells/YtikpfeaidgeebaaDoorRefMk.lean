/-
  What is proved here: what the document's Monday and Marks (a leaf of the calendar, with marks) answer (contracts over the translation).
-/
import Derived.Test.YtikpfeaidgeebaaDoorMoMk
import Derived.Test.YtikpfeaidgeebaaDoorRefDg
namespace Go.Proofs.YtikpfeaidgeebaaDoor.Mo
open Go.RowKit Cal Txt

theorem refMonday_any (n : Int) (w : World) (h1 : 1 ≤ n) (h2 : n ≤ 109573) :
    Calls Tryd.prog 20 #[.int .i64 n] w fun e w' => e = .returned (.int .i64 (mn n)) ∧ w' = w := by
  go_enter Tryd.func20, Tryd.ntmps20
  go_wp2
  go_ret
  exact ⟨rfl, rfl⟩
/-- A place's bytes, as the document has them. -/
theorem pl_two {F T n : Int} {p : Int → Bool} (h : ∀ k, p k = true → F ≤ k ∧ k ≤ T) (g : n < F ∨ T < n) : p n = false := by
  rcases q : p n with _ | _
  · rfl
  · have := h n q; omega
theorem nu_small {d : Nat} (h : d < 10) : nu d = [32] ++ Lib.decDigits d := by unfold nu; rw [if_pos h]; rfl
theorem nu_big {d : Nat} (h : ¬ d < 10) : nu d = Lib.decDigits d := by unfold nu; rw [if_neg h]
theorem dec_two {d : Nat} (h : ¬ d < 10) (h2 : d < 100) : (Lib.decDigits d).length = 2 := by rw [d2_big h h2]; rfl
set_option maxRecDepth 100000 in
set_option maxHeartbeats 4000000 in
theorem refMk_any (y m : Int) (v : Value) (l : List Int) (w : World) (h : isM y m) (hv : Ints w v l) (hl : l.length ≤ 100) (hp : ∀ k, mk l k = true → fst y m ≤ k ∧ k ≤ lst y m) :
    Calls Tryd.prog 7 #[.int .i64 y, .int .i64 m, v] w fun e w' => (∃ v', e = .returned v' ∧ Txs w' v' (lfM y m (mk l))) ∧ Below w.heap.size w w' := by
  obtain ⟨i0, hi, hz0, hz1, hz2⟩ := info_parts info_str
  have HV := Lib.hid hv
  obtain ⟨a, c, rfl, _⟩ := hv
  have EB := ends_bd h
  have K1 : Hid (∀ W, Calls Tryd.prog 11 #[.agg #[.int .i64 y, .int .i64 m, .int .i64 1]] W fun e w' => e = .returned (.int .i64 (fst y m)) ∧ Below W.heap.size W w') := Lib.hid (fun W => refOf_yes y m 1 W (ok_one h))
  have K2 : Hid (∀ W, Calls Tryd.prog 6 #[.int .i64 y, .int .i64 m] W fun e w' => e = .returned (.int .i64 (ml y m)) ∧ w' = W) := Lib.hid (fun W => refDays_yes y m W h.1 h.2.1 h.2.2.1 h.2.2.2)
  have KI : Hid (∀ x W, Below w.heap.size w W → Calls Tryd.prog 21 #[.slice a l.length c, .int .i64 x] W fun e w' => e = .returned (.bool (mk l x)) ∧ w' = W) := Lib.hid (fun x W hW => Zo.refIn_any _ l x W (HV.out.on hW) (by omega))
  have CL := Lib.hid (cnt_lt (F := fst y m) (T := lst y m))
  have LE : lst y m = fst y m + ml y m - 1 := rfl
  have MB := mn_bd (fst y m)
  have MP := mn_pos EB.1
  have CB := cnt_bd EB.2.2.1 EB.2.2.2
  unfold lfM leaf
  generalize mk l = p at hp KI ⊢
  have HP := Lib.hid hp
  rw [LE] at EB CL HP CB ⊢
  clear h LE hp
  generalize fst y m = F at EB CL HP CB K1 MB MP ⊢
  generalize ml y m = Z at EB CL HP CB K2 ⊢
  generalize cnt F (F + Z - 1) = C at CL CB ⊢
  obtain ⟨F1, F2, F3, F4⟩ := EB
  go_enter Tryd.func7, Tryd.ntmps7
  go_wp2_with fail
  refine (K1.out _).mono ?_
  rintro e w1 ⟨rfl, hb⟩
  have B1 := Lib.hid hb
  clear hb K1
  go_wp2_with fail
  refine (K2.out _).mono ?_
  rintro e w2 ⟨rfl, hw⟩
  replace hw := hw.symm
  subst hw
  clear K2
  go_wp2_with (go_at_call 20; refine (refMonday_any _ _ (by omega) (by omega)).mono ?_; rintro e w' ⟨rfl, hw⟩; replace hw := hw.symm; subst hw)
  go_loopw [9, 10] (fun lv mv wr => ∃ k : Nat, k ≤ C ∧ mv = .int .i64 (mn F + 7 * (k : Int)) ∧ wr.ownsRow w1.heap.size 9 1 lv k (strs (rws F (F + Z - 1) p k)) ∧ Below w1.heap.size w1 wr) (fun _ mv _ => (F + Z + 7 - intOf mv).toNat)
  case atStart => exact ⟨0, Nat.zero_le _, by simp, World.ownsRow_nil _ _ _ _, Below.refl _ _⟩
  case round =>
    obtain ⟨k, hk, rfl, hown, hB⟩ := hrel
    have HO := Lib.hid hown
    have HB := Lib.hid hB
    clear hown
    obtain ⟨m, hm⟩ : ∃ m, m = mn F + 7 * (k : Int) := ⟨_, rfl⟩
    have HM := Lib.hid hm
    rw [← hm]
    have m1 : 1 ≤ m := by omega
    by_cases hlt : m < F + Z
    · have hk' : k < C := CL.out k |>.1 (by rw [← hm]; omega)
      clear hm
      go_wp2
      go_loopw [11, 12] (fun sv nv wx => ∃ j : Nat, j ≤ 7 ∧ nv = .int .i64 (m + (j : Int)) ∧ sv = .string (tb (ln F (F + Z - 1) p m j)) ∧ wx = wr) (fun _ nv _ => (m + 7 - intOf nv).toNat)
      case atStart => exact ⟨0, Nat.zero_le _, by simp, rfl, rfl⟩
      case round =>
        obtain ⟨j, hj, rfl, rfl, hwx⟩ := hrel
        replace hwx := hwx.symm
        subst hwx
        have LL := ln_len (F := F) (T := F + Z - 1) (p := p) (by omega) m j
        by_cases h7 : j < 7
        · obtain ⟨n, hn⟩ : ∃ n, n = m + (j : Int) := ⟨_, rfl⟩
          have K := Lib.hid (KI.out n wr (B1.out.trans (HB.out.mono B1.out.size)))
          have s1 : (tb (ln F (F + Z - 1) p m j)).size = 3 * j := by rw [tb_size, LL]
          have n1 : n < m + 7 := by omega
          have J1 : Hid (n + 1 = m + ((j + 1 : Nat) : Int)) := Lib.hid (by omega)
          have J2 : Hid ((m + 7 - (n + 1)).toNat < (m + 7 - n).toNat) := Lib.hid (by omega)
          have n2 : n ≤ 200000 := by omega
          have n3 : 1 ≤ n := by omega
          have j2 : j + 1 ≤ 7 := by omega
          have LN : ln F (F + Z - 1) p m (j + 1) = ln F (F + Z - 1) p m j ++ pl F (F + Z - 1) p n := by rw [hn]; rfl
          rw [← hn]
          by_cases g : n < F ∨ F + Z - 1 < n
          · have N1 : Hid ((tb (ln F (F + Z - 1) p m j) ++ ⟨#[32]⟩) ++ ⟨#[32, 32]⟩ = tb (ln F (F + Z - 1) p m (j + 1))) := Lib.hid (by
              rw [LN, pl_none g, ← tb_app, ByteArray.append_assoc]; rfl)
            rw [pl_two HP.out g] at K
            clear hn LL LN
            generalize tb (ln F (F + Z - 1) p m j) = X at N1 s1 ⊢
            rcases (by omega : n < F ∨ (F ≤ n ∧ F + Z ≤ n)) with g1 | ⟨g1, g2⟩
            all_goals
              clear g
              go_wp2_with fail
              refine K.out.mono ?_
              rintro e w2 ⟨rfl, hw⟩
              replace hw := hw.symm
              subst hw
              go_wp2
              go_roundw
              case rel => exact ⟨j + 1, j2, by rw [J1.out], congrArg Value.string N1.out, trivial⟩
              case measure => exact J2.out
          · have g1 : F ≤ n := by omega
            have g2 : n < F + Z := by omega
            clear g
            obtain ⟨d, hd⟩ : ∃ d, d = (n - F + 1).toNat := ⟨_, rfl⟩
            have d9 : d < 100 := by omega
            have dn : n - F + 1 = (d : Int) := by omega
            have KD : Hid (∀ W, Calls Tryd.prog 22 #[.int .i64 (n - F + 1)] W fun e w' => e = .returned (.string (tb (Lib.decDigits d))) ∧ w' = W) := Lib.hid (fun W => by
              have := refDigits_any (n - F + 1) W (by omega) (by omega)
              rw [← hd] at this
              exact this)
            rcases hq : p n with _ | _
            · rw [hq] at K
              by_cases d10 : d < 10
              · have N1 : Hid ((tb (ln F (F + Z - 1) p m j) ++ ⟨#[32]⟩) ++ (⟨#[32]⟩ ++ tb (Lib.decDigits d)) = tb (ln F (F + Z - 1) p m (j + 1))) := Lib.hid (by
                  rw [LN, pl_bare g1 (by omega) hq, ← hd, nu_small d10, ← tb_app, ← tb_app, ← tb_app, ByteArray.append_assoc]; rfl)
                have ds : (tb (Lib.decDigits d)).size = 1 := by rw [tb_size, dec_one d10]
                clear hn LL LN hq hd dn
                generalize tb (ln F (F + Z - 1) p m j) = X at N1 s1 ⊢
                generalize tb (Lib.decDigits d) = Y at N1 ds KD
                go_wp2_with fail
                refine K.out.mono ?_
                rintro e w2 ⟨rfl, hw⟩
                replace hw := hw.symm
                subst hw
                go_wp2_with (go_at_call 22; refine (KD.out _).mono ?_; rintro e w' ⟨rfl, hw⟩; replace hw := hw.symm; subst hw)
                go_roundw
                case rel => exact ⟨j + 1, j2, by rw [J1.out], congrArg Value.string N1.out, trivial⟩
                case measure => exact J2.out
              · have N1 : Hid ((tb (ln F (F + Z - 1) p m j) ++ ⟨#[32]⟩) ++ tb (Lib.decDigits d) = tb (ln F (F + Z - 1) p m (j + 1))) := Lib.hid (by
                  rw [LN, pl_bare g1 (by omega) hq, ← hd, nu_big d10, ← tb_app, ← tb_app, ByteArray.append_assoc]; rfl)
                have ds : (tb (Lib.decDigits d)).size = 2 := by rw [tb_size, dec_two d10 d9]
                clear hn LL LN hq hd dn
                generalize tb (ln F (F + Z - 1) p m j) = X at N1 s1 ⊢
                generalize tb (Lib.decDigits d) = Y at N1 ds KD
                go_wp2_with fail
                refine K.out.mono ?_
                rintro e w2 ⟨rfl, hw⟩
                replace hw := hw.symm
                subst hw
                go_wp2_with (go_at_call 22; refine (KD.out _).mono ?_; rintro e w' ⟨rfl, hw⟩; replace hw := hw.symm; subst hw)
                go_roundw
                case rel => exact ⟨j + 1, j2, by rw [J1.out], congrArg Value.string N1.out, trivial⟩
                case measure => exact J2.out
            · rw [hq] at K
              by_cases d10 : d < 10
              · have N1 : Hid ((tb (ln F (F + Z - 1) p m j) ++ ⟨#[42]⟩) ++ (⟨#[32]⟩ ++ tb (Lib.decDigits d)) = tb (ln F (F + Z - 1) p m (j + 1))) := Lib.hid (by
                  rw [LN, pl_mark g1 (by omega) hq, ← hd, nu_small d10, ← tb_app, ← tb_app, ← tb_app, ByteArray.append_assoc]; rfl)
                have ds : (tb (Lib.decDigits d)).size = 1 := by rw [tb_size, dec_one d10]
                clear hn LL LN hq hd dn
                generalize tb (ln F (F + Z - 1) p m j) = X at N1 s1 ⊢
                generalize tb (Lib.decDigits d) = Y at N1 ds KD
                go_wp2_with fail
                refine K.out.mono ?_
                rintro e w2 ⟨rfl, hw⟩
                replace hw := hw.symm
                subst hw
                go_wp2_with (go_at_call 22; refine (KD.out _).mono ?_; rintro e w' ⟨rfl, hw⟩; replace hw := hw.symm; subst hw)
                go_roundw
                case rel => exact ⟨j + 1, j2, by rw [J1.out], congrArg Value.string N1.out, trivial⟩
                case measure => exact J2.out
              · have N1 : Hid ((tb (ln F (F + Z - 1) p m j) ++ ⟨#[42]⟩) ++ tb (Lib.decDigits d) = tb (ln F (F + Z - 1) p m (j + 1))) := Lib.hid (by
                  rw [LN, pl_mark g1 (by omega) hq, ← hd, nu_big d10, ← tb_app, ← tb_app, ByteArray.append_assoc]; rfl)
                have ds : (tb (Lib.decDigits d)).size = 2 := by rw [tb_size, dec_two d10 d9]
                clear hn LL LN hq hd dn
                generalize tb (ln F (F + Z - 1) p m j) = X at N1 s1 ⊢
                generalize tb (Lib.decDigits d) = Y at N1 ds KD
                go_wp2_with fail
                refine K.out.mono ?_
                rintro e w2 ⟨rfl, hw⟩
                replace hw := hw.symm
                subst hw
                go_wp2_with (go_at_call 22; refine (KD.out _).mono ?_; rintro e w' ⟨rfl, hw⟩; replace hw := hw.symm; subst hw)
                go_roundw
                case rel => exact ⟨j + 1, j2, by rw [J1.out], congrArg Value.string N1.out, trivial⟩
                case measure => exact J2.out
        · obtain rfl : j = 7 := by omega
          have HO1 := HO
          have sz : w1.heap.size ≤ wr.heap.size := HB.out.size
          have kb : k ≤ 100 := by omega
          have RL := rws_len F (F + Z - 1) p k
          have HX0 := Lib.hid (Below.refl wr.heap.size wr)
          clear LL
          generalize hX : tb (ln F (F + Z - 1) p m 7) = X
          have HX := Lib.hid hX
          clear hX
          go_wp2_with (at_builtin; refine wpList_append_own _ rfl _ _ 23 rfl w1.heap.size 9 i0 (.string ByteArray.empty) 1 16 Tryd.underlying23 hi hz0 hz1 hz2 rfl (by decide) _ _ _ rfl (HO1.out.alloc _) ⟨wr.heap.size, 0, none⟩ 1 1 [.string X] rfl rfl ?c1 ?c2 ?c3 ?c4 ?c5 ?_)
          case c1 =>
            intro j u hj
            match j, hj with
            | 0, hj => simp at hj; subst hj; simp [Addr.add]
          case c2 => intro u hu; simp at hu; subst hu; rfl
          case c3 => unfold maxLen; omega
          case c4 => omega
          case c5 => simp; omega
          intro v' w2 hown' hgrow _
          have R := own_next hB.size hB HX0.out HO.out hown' hgrow
          have N1 := Lib.hid (rws_next F (F + Z - 1) p k)
          rw [← HM.out, HX.out] at N1
          have R1 := Lib.hid R.1
          have R2 := Lib.hid R.2
          rw [← N1.out] at R1
          have J1 : Hid (m + 7 = mn F + 7 * ((k + 1 : Nat) : Int)) := Lib.hid (by rw [HM.out]; omega)
          have J2 : Hid ((F + Z + 7 - (m + 7)).toNat < (F + Z + 7 - m).toNat) := Lib.hid (by omega)
          clear R hown' hgrow HO1 HO HX0 N1 HB
          go_wp2
          go_roundw
          case rel => exact ⟨k + 1, by omega, by rw [J1.out], R1.out, R2.out⟩
          case measure => exact J2.out
    · have hk' : k = C := by
        have := CL.out k
        omega
      subst hk'
      go_wp2
      go_ret
      exact ⟨⟨_, rfl, own_txs HO.out⟩, B1.out.trans (HB.out.mono B1.out.size)⟩
end Go.Proofs.YtikpfeaidgeebaaDoor.Mo
