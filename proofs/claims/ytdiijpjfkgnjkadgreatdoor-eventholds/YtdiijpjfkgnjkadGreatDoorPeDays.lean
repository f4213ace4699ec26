/-
  What is proved here: what package period's Days answers (a contract over the translation); the table of months is asked as a premise.
-/
import Derived.Test.YtdiijpjfkgnjkadGreatDoorPePick
namespace Go.Proofs.YtdiijpjfkgnjkadGreatDoor
open Go.RowKit Cal Txt

theorem rf_ok2 {r : Rl} (h : rf r = 0) : r.months.length ≤ 12 ∧ r.days.length ≤ 31 ∧ r.weeks.length ≤ 20 ∧ r.pick.length ≤ 20 := by
  unfold rf at h
  split at h
  · cases h
  split at h
  · cases h
  split at h
  · cases h
  · rename_i o
    have o' : ok2 r = true := by simpa using o
    exact of_decide_eq_true o'
theorem sm_comp {r : Rl} (s : Int) (h : rf r = 0) : Sm (comp r s) := by
  obtain ⟨h1, h2, h3, h4⟩ := rf_ok2 h
  unfold comp
  split
  · exact ⟨by omega, by omega, by omega⟩
  split
  · exact ⟨by show r.months.length ≤ 31; omega, by show r.days.length ≤ 31; omega, by show 1 ≤ 31; omega⟩
  split
  · exact ⟨by show r.months.length ≤ 31; omega, by show 1 ≤ 31; omega, by show r.weeks.length ≤ 31; omega⟩
  split
  · refine ⟨?_, by show 1 ≤ 31; omega, by show r.weeks.length ≤ 31; omega⟩
    show (if r.months.length = 0 then [mo s] else r.months).length ≤ 31
    split
    · show 1 ≤ 31; omega
    · omega
  · exact ⟨by omega, by omega, by omega⟩
theorem pEnds_len {fr ev s k a b : Int} (hf : 1 ≤ fr ∧ fr ≤ 4) (h : pEnds fr ev s k = some (a, b)) : b ≤ a + 400 := by
  unfold pEnds at h
  rcases fr4 hf with rfl | rfl | rfl | rfl
  · rw [if_neg (by decide), if_neg (by decide), if_neg (by decide)] at h
    obtain ⟨q, rfl, rfl⟩ := cutL_some h
    omega
  · rw [if_pos rfl] at h
    obtain ⟨q, rfl, rfl⟩ := cutL_some h
    omega
  · rw [if_neg (by decide), if_pos rfl] at h
    split at h
    · obtain ⟨q, rfl, rfl⟩ := cutL_some h
      have b := ml_bd (yr s + (mo s - 1 + k * ev) / 12) (1 + (mo s - 1 + k * ev) % 12)
      omega
    · cases h
  · rw [if_neg (by decide), if_neg (by decide), if_pos rfl] at h
    split at h
    · injection h with h
      injection h with e1 e2
      subst e1
      subst e2
      have c := cum_bd (yr s + k * ev) 12 (by omega) (by omega)
      rw [num_first]
      unfold num
      omega
    · cases h
theorem pE_len {r : Rl} {s k a b : Int} (h : pE r s k = some (a, b)) : b ≤ a + 400 := by
  obtain ⟨h1, h2, h3, h4⟩ := pE_some h
  exact pEnds_len (rf_nums h1).1 h4
/-- The first days of a period that are asked for. -/
def ask (r : Rl) (a : Int) (j : Nat) : List Int := (rng a j).filter (askB r)
theorem ask_next (r : Rl) (a : Int) (j : Nat) : ask r a (j + 1) = if askB r (a + (j : Int)) = true then ask r a j ++ [a + (j : Int)] else ask r a j := by
  unfold ask
  rw [rng_next, List.filter_append]
  by_cases h : askB r (a + (j : Int)) = true
  · rw [if_pos h]; simp [h]
  · rw [if_neg h]; simp [h]
theorem ask_len (r : Rl) (a : Int) (j : Nat) : (ask r a j).length ≤ j := by
  unfold ask
  have := List.length_filter_le (askB r) (rng a j)
  have e : (rng a j).length = j := by unfold rng; rw [List.length_map, List.length_range]
  omega
/-- What is answered of the days of a period. -/
def PerA (w : World) (o : Option (List Int)) (e : Ending) (w' : World) : Prop :=
  Below w.heap.size w w' ∧ ((o = none ∧ e = .returned (.tuple #[.slice none 0 0, errRange])) ∨ ∃ l v, o = some l ∧ e = .returned (.tuple #[v, .nilIface]) ∧ Ints w' v l)
def PerF (w : World) (o : Option (List Int)) (e : Ending) (w' : World) : Prop :=
  Below w.heap.size w w' ∧ ((o = none ∧ e = .returned (.tuple #[.slice none 0 0, errRange])) ∨ ∃ l v, o = some l ∧ e = .returned (.tuple #[v, .nilIface]) ∧ Ints w' v l ∧ Fr w.heap.size v)
/-- The days of the k-th period; none: there is none. -/
def pD (r : Rl) (s k : Int) : Option (List Int) := match pE r s k with
  | some (a, b) => some (perD r s a b)
  | none => none
set_option maxRecDepth 100000 in
set_option maxHeartbeats 4000000 in
theorem perDays_new (r : Rl) (v : Value) (s k : Int) (w : World) (hv : RuleIn w v r) (hT : Tab w) :
    Calls Tryz.prog 128 #[v, .int .i64 s, .int .i64 k] w (PerF w (pD r s k)) := by
  obtain ⟨i0, hi, hz0, hz1, hz2⟩ := info_parts info_per_int
  obtain ⟨am, ad, aw, ap, cm, cd, cw, cp, rfl⟩ := hv.form
  have B0 := (Below.refl w.heap.size w).alloc (Nat.le_refl _) (.cells #[.int .i64 r.freq, .int .i64 r.every, .int .i64 r.count, .int .i64 r.till, .slice am r.months.length cm, .slice ad r.days.length cd, .slice aw r.weeks.length cw, .slice ap r.pick.length cp] 25)
  have KC := Lib.hid (ends_any r _ s k _ (hv.on B0) (hT.below B0))
  have HV := Lib.hid (fun W (q : Below w.heap.size w W) => hv.on q)
  have HT := Lib.hid (fun W (q : Below w.heap.size w W) => hT.below q)
  have HR := Lib.hid (RBox.new w r.freq r.every r.count r.till (.slice am r.months.length cm) (.slice ad r.days.length cd) (.slice aw r.weeks.length cw) (.slice ap r.pick.length cp) 25)
  have HB := Lib.hid B0
  clear B0 hv hT
  go_enter Tryz.func128, Tryz.ntmps128
  go_wp2_with fail
  generalize w.alloc (.cells #[.int .i64 r.freq, .int .i64 r.every, .int .i64 r.count, .int .i64 r.till, .slice am r.months.length cm, .slice ad r.days.length cd, .slice aw r.weeks.length cw, .slice ap r.pick.length cp] 25) = W0 at HB KC HR ⊢
  refine KC.out.mono ?_
  rintro e w1 ⟨rfl, hb⟩
  have B1 := Lib.hid (HB.out.trans (hb.mono HB.out.size))
  have R1 := Lib.hid (HR.out.on hb)
  clear hb KC HB HR
  rcases hq : pE r s k with _ | ⟨a, b⟩
  · have N0 : Hid (pD r s k = none) := Lib.hid (by unfold pD; rw [hq])
    clear hq
    simp only [EndA]
    go_wp2
    exact bodyPost_ret (v := .tuple #[.slice none 0 0, errRange]) (by simp [results, Tryz.results128, go_sem]) rfl ⟨B1.out, Or.inl ⟨N0.out, rfl⟩⟩
  have N1 : Hid (pD r s k = some (perD r s a b)) := Lib.hid (by unfold pD; rw [hq])
  have LN := pE_len hq
  obtain ⟨a1, ab, bL⟩ := pE_in hq
  obtain ⟨z0, zk, ⟨s1, s2⟩, ze⟩ := pE_some hq
  have SM := Lib.hid (sm_comp s z0)
  have PKL := (rf_ok2 z0).2.2.2
  clear hq z0 zk ze
  simp only [EndA]
  go_wp2_with fail
  refine (placeOf_yes s _ (HT.out _ B1.out) s1 s2).mono ?_
  rintro e w2 ⟨rfl, hb⟩
  unfold PLC
  have A2 : Below w2.heap.size w2 (w2.alloc (.cells #[.int .i64 (yr s), .int .i64 (mo s), .int .i64 (da s), .int .i64 (ml (yr s) (mo s)), .int .i64 ((da s - 1) / 7 + 1), .int .i64 (wd s), .int .i64 (-((ml (yr s) (mo s) - da s) / 7) - 1), .int .i64 (wd s)] 170)) := (Below.refl _ _).alloc (Nat.le_refl _) _
  have B2' := B1.out.trans (hb.mono B1.out.size)
  have B2 := Lib.hid (B2'.trans (A2.mono B2'.size))
  have R2 := Lib.hid ((R1.out.on hb).on A2)
  have KM := Lib.hid (completed_any r s _ _ (HV.out _ B2.out))
  obtain ⟨x0, x1, x2, x3, x4, x5, x6, x7⟩ := R1.out.on hb
  have xl := (R1.out.on hb).lt
  clear hb B1 R1 B2' A2
  go_wp2_with fail
  clear x0 x1 x2 x3 x4 x5 x6 x7 xl
  generalize w2.alloc (.cells #[.int .i64 (yr s), .int .i64 (mo s), .int .i64 (da s), .int .i64 (ml (yr s) (mo s)), .int .i64 ((da s - 1) / 7 + 1), .int .i64 (wd s), .int .i64 (-((ml (yr s) (mo s) - da s) / 7) - 1), .int .i64 (wd s)] 170) = W2 at B2 R2 KM ⊢
  refine KM.out.mono ?_
  rintro e w3 ⟨vc, rfl, hrc, hb⟩
  have B3 := Lib.hid (B2.out.trans (hb.mono B2.out.size))
  have R3 := Lib.hid (R2.out.on hb)
  have KA := Lib.hid (asked_any (comp r s) vc w3 hrc)
  obtain ⟨_, _, _, _, _, _, _, _, rfl⟩ := hrc.form
  clear hb B2 R2 KM hrc
  go_wp2_with fail
  refine KA.out.mono ?_
  rintro e W5 ⟨rfl, hb, hF⟩
  have B5 := Lib.hid (B3.out.trans (hb.mono B3.out.size))
  have R5 := Lib.hid (R3.out.on hb)
  have HF := Lib.hid hF
  clear hb hF B3 R3 KA
  generalize w3.heap.size + 1 = c at HF ⊢
  go_wp2_with fail
  go_loopw [13, 14] (fun dv nv wr => ∃ j : Nat, j ≤ (b + 1 - a).toNat ∧ nv = .int .i64 (a + (j : Int)) ∧ wr.ownsRow W5.heap.size 3 1 dv (ask (comp r s) a j).length (nums (ask (comp r s) a j)) ∧ Below W5.heap.size W5 wr) (fun _ nv _ => (b + 1 - intOf nv).toNat)
  case atStart => exact ⟨0, Nat.zero_le _, by simp, World.ownsRow_nil _ _ _ _, Below.refl _ _⟩
  case round =>
    obtain ⟨j, hj, rfl, hown, hB⟩ := hrel
    have HO := Lib.hid hown
    have Bw := B5.out.trans (hB.mono B5.out.size)
    clear hown
    by_cases hlt : a + (j : Int) ≤ b
    · obtain ⟨n, hn⟩ : ∃ n, n = a + (j : Int) := ⟨_, rfl⟩
      rw [← hn] at hlt
      rw [← hn]
      have HN := Lib.hid hn
      have n1 : 1 ≤ n := by omega
      have n2 : n ≤ 109573 := by omega
      clear hn
      have KP := Lib.hid (placeOf_yes n wr (HT.out _ Bw) n1 n2)
      go_wp2_with fail
      refine KP.out.mono ?_
      rintro e w6 ⟨rfl, hb⟩
      unfold PLC
      have A6 : Below w6.heap.size w6 (w6.alloc (.cells #[.int .i64 (yr n), .int .i64 (mo n), .int .i64 (da n), .int .i64 (ml (yr n) (mo n)), .int .i64 ((da n - 1) / 7 + 1), .int .i64 (wd n), .int .i64 (-((ml (yr n) (mo n) - da n) / 7) - 1), .int .i64 (wd n)] 170)) := (Below.refl _ _).alloc (Nat.le_refl _) _
      have B6' := hB.trans (hb.mono hB.size)
      have B6 := Lib.hid (B6'.trans (A6.mono B6'.size))
      have O6 := Lib.hid (ow_below (ow_below HO.out hb) A6)
      have KQ := Lib.hid (ask4_any (comp r s) n c (w6.alloc (.cells #[.int .i64 (yr n), .int .i64 (mo n), .int .i64 (da n), .int .i64 (ml (yr n) (mo n)), .int .i64 ((da n - 1) / 7 + 1), .int .i64 (wd n), .int .i64 (-((ml (yr n) (mo n) - da n) / 7) - 1), .int .i64 (wd n)] 170)) (HF.out.on B6.out) SM.out n1 n2)
      clear hb B6' A6 KP HO
      have AN := Lib.hid (ask_next (comp r s) a j)
      have AL := ask_len (comp r s) a j
      rw [← HN.out] at AN
      generalize ask (comp r s) a j = xs at O6 AN AL
      have J1 : Hid (n + 1 = a + ((j + 1 : Nat) : Int)) := Lib.hid (by rw [HN.out]; omega)
      have J2 : j + 1 ≤ (b + 1 - a).toNat := by have := HN.out; omega
      have s6 : W5.heap.size ≤ (w6.alloc (.cells #[.int .i64 (yr n), .int .i64 (mo n), .int .i64 (da n), .int .i64 (ml (yr n) (mo n)), .int .i64 ((da n - 1) / 7 + 1), .int .i64 (wd n), .int .i64 (-((ml (yr n) (mo n) - da n) / 7) - 1), .int .i64 (wd n)] 170)).heap.size := B6.out.size
      rcases hq : askB (comp r s) n with _ | _
      · rw [hq] at KQ
        have M1 : Hid (ask (comp r s) a (j + 1) = xs) := Lib.hid (by rw [AN.out, if_neg (by rw [hq]; decide)])
        clear hq AN
        go_wp2_with fail
        generalize w6.alloc (.cells #[.int .i64 (yr n), .int .i64 (mo n), .int .i64 (da n), .int .i64 (ml (yr n) (mo n)), .int .i64 ((da n - 1) / 7 + 1), .int .i64 (wd n), .int .i64 (-((ml (yr n) (mo n) - da n) / 7) - 1), .int .i64 (wd n)] 170) = W6 at B6 O6 KQ s6 ⊢
        refine KQ.out.mono ?_
        rintro e w7 ⟨rfl, hb⟩
        have B7 := Lib.hid (B6.out.trans (hb.mono B6.out.size))
        have O7 := Lib.hid (ow_below O6.out hb)
        clear hb KQ B6 O6
        go_wp2
        go_roundw
        case rel => exact ⟨j + 1, J2, by rw [← J1.out], by rw [M1.out]; exact O7.out, B7.out⟩
        case measure => simp [intOf]; omega
      · rw [hq] at KQ
        have M1 : Hid (ask (comp r s) a (j + 1) = xs ++ [n]) := Lib.hid (by rw [AN.out, if_pos hq])
        clear hq AN
        go_wp2_with fail
        generalize w6.alloc (.cells #[.int .i64 (yr n), .int .i64 (mo n), .int .i64 (da n), .int .i64 (ml (yr n) (mo n)), .int .i64 ((da n - 1) / 7 + 1), .int .i64 (wd n), .int .i64 (-((ml (yr n) (mo n) - da n) / 7) - 1), .int .i64 (wd n)] 170) = W6 at B6 O6 KQ s6 ⊢
        refine KQ.out.mono ?_
        rintro e w7 ⟨rfl, hb⟩
        have B7 := B6.out.trans (hb.mono B6.out.size)
        have O7 := Lib.hid (ow_below O6.out hb)
        have s7 : W5.heap.size ≤ w7.heap.size := B7.size
        clear hb KQ B6 O6
        go_wp2_with (at_builtin; refine wpList_append_own _ rfl _ _ 22 rfl W5.heap.size 3 i0 (.int .i64 0) 1 8 Tryz.underlying22 hi hz0 hz1 hz2 rfl (by decide) _ _ _ rfl (O7.out.alloc _) ⟨w7.heap.size, 0, none⟩ 1 1 [.int .i64 n] rfl rfl ?c1 ?c2 ?c3 ?c4 ?c5 ?_)
        case c1 =>
          intro q u hj
          match q, hj with
          | 0, hj => simp at hj; subst hj; simp [Addr.add]
        case c2 => intro u hu; simp at hu; subst hu; rfl
        case c3 => unfold maxLen; omega
        case c4 => omega
        case c5 => simp; omega
        intro v' w8 hown' hgrow _
        have R2 := Lib.hid (ow_grow B7.size B7 (Below.refl _ _) O7.out hgrow)
        have R1 := Lib.hid hown'
        rw [← nums_snoc] at R1
        clear hown' hgrow O7
        go_wp2
        go_roundw
        case rel => exact ⟨j + 1, J2, by rw [← J1.out], by rw [M1.out, List.length_append]; exact R1.out, R2.out⟩
        case measure => simp [intOf]; omega
    · have AE : Hid (ask (comp r s) a j = allD r s a b) := Lib.hid (by unfold ask allD; rw [show j = (b + 1 - a).toNat by omega])
      have AL := ask_len (comp r s) a j
      have RR := ow_ints HO.out
      rw [AE.out] at RR AL
      obtain ⟨vm, vd, vw, vp, e', _, _, _, h4⟩ := HV.out _ Bw
      obtain ⟨_, _, _, rfl⟩ : Value.slice am r.months.length cm = vm ∧ Value.slice ad r.days.length cd = vd ∧ Value.slice aw r.weeks.length cw = vw ∧ Value.slice ap r.pick.length cp = vp := by simpa using e'
      obtain ⟨av, cv, rfl, _⟩ := id RR
      have KP := Lib.hid (picked_new w.heap.size _ _ _ _ wr RR h4 (by omega) (by omega) Bw.size (fun g hg => Nat.le_trans B5.out.size (HO.out.lt g hg).1))
      have RX := R5.out.on hB
      have xl := RX.lt
      obtain ⟨x0, x1, x2, x3, x4, x5, x6, x7⟩ := RX
      have BX := Lib.hid Bw
      clear RR h4 e' HO Bw
      go_wp2_with fail
      refine KP.out.mono ?_
      rintro e w9 ⟨v9, rfl, hi9, hb, hf9⟩
      have F9 := Lib.hid hf9
      clear hf9
      have B9 := Lib.hid (BX.out.trans (hb.mono BX.out.size))
      have I9 := Lib.hid hi9
      obtain ⟨a9, c9, rfl, _⟩ := hi9
      clear hb KP x0 x1 x2 x3 x4 x5 x6 x7 xl
      go_wp2
      exact bodyPost_ret (v := .tuple #[.slice a9 (pick r.pick (allD r s a b)).length c9, .nilIface]) (by simp [results, Tryz.results128, go_sem]) rfl ⟨B9.out, Or.inr ⟨_, _, N1.out, rfl, I9.out, F9.out⟩⟩
theorem perDays_any (r : Rl) (v : Value) (s k : Int) (w : World) (hv : RuleIn w v r) (hT : Tab w) :
    Calls Tryz.prog 128 #[v, .int .i64 s, .int .i64 k] w (PerA w (pD r s k)) :=
  (perDays_new r v s k w hv hT).mono (fun _ _ ⟨b, h⟩ => ⟨b, h.elim Or.inl (fun ⟨l, v, h1, h2, h3, _⟩ => Or.inr ⟨l, v, h1, h2, h3⟩)⟩)
end Go.Proofs.YtdiijpjfkgnjkadGreatDoor
