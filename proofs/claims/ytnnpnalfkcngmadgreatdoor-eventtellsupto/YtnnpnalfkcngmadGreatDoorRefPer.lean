/-
  What is proved here: what the document's Period answers of a rule with nothing wrong and a day (a contract over the translation).
-/
import Derived.Test.YtnnpnalfkcngmadGreatDoorRefWant
namespace Go.Proofs.YtnnpnalfkcngmadGreatDoor
open Go.RowKit Cal Txt

/-- What is answered of a list that is there, or not. -/
def PeA (w : World) (o : Option (List Int)) (e : Ending) (w' : World) : Prop :=
  Below w.heap.size w w' ∧ ((o = none ∧ e = .returned (.tuple #[.slice none 0 0, .bool false])) ∨ ∃ l v, o = some l ∧ e = .returned (.tuple #[v, .bool true]) ∧ Ints w' v l ∧ Fr w.heap.size v)
/-- A name for a world. -/
theorem wname {B : Nat} {a w : World} (_ : Below B a w) : ∃ x, x = w := ⟨w, rfl⟩
theorem rf_sm {r : Rl} (h : rf r = 0) : Sm r := by
  obtain ⟨h1, h2, h3, _⟩ := rf_ok2 h
  exact ⟨by omega, by omega, by omega⟩
set_option maxRecDepth 100000 in
set_option maxHeartbeats 8000000 in
theorem refPeriod_any (r : Rl) (v : Value) (s k : Int) (w : World) (hv : RuleIn w v r) (hz : rf r = 0) (s1 : 1 ≤ s) (s2 : s ≤ 109573) :
    Calls Tryz.prog 53 #[v, .int .i64 s, .int .i64 k] w (PeA w (pD r s k)) := by
  obtain ⟨i0, hi, hz0, hz1, hz2⟩ := info_parts info_per_int
  have HV := Lib.hid (fun W (q : Below w.heap.size w W) => hv.on q)
  have KW := Lib.hid (fun n (n1 : 1 ≤ n) (n2 : n ≤ 109573) W (q : Below w.heap.size w W) => refWanted_any r v s n W (hv.on q) (rf_sm hz) s1 s2 n1 n2)
  have HP := Lib.hid (fun W (q : Below w.heap.size w W) => (by obtain ⟨vm, vd, vw, vp, rfl, _, _, _, hp⟩ := hv; exact ⟨vm, vd, vw, vp, rfl, hp.on q⟩ : ∃ vm vd vw vp, v = .agg #[.int .i64 r.freq, .int .i64 r.every, .int .i64 r.count, .int .i64 r.till, vm, vd, vw, vp] ∧ Ints W vp r.pick))
  have WA := Lib.hid (fun n (n1 : 1 ≤ n) (n2 : n ≤ 109573) => want_ask (r := r) (s := s) (rf_nums hz).1.1 (rf_nums hz).1.2 s1 s2 n1 n2)
  have PL := (rf_ok2 hz).2.2.2
  obtain ⟨am, ad, aw, ap, cm, cd, cw, cp, rfl⟩ := rule_form hv
  have B0 := (Below.refl w.heap.size w).alloc (Nat.le_refl _) (.cells #[.int .i64 r.freq, .int .i64 r.every, .int .i64 r.count, .int .i64 r.till, .slice am r.months.length cm, .slice ad r.days.length cd, .slice aw r.weeks.length cw, .slice ap r.pick.length cp] 25)
  have KB := Lib.hid (refBegin_any r _ s k _ (hv.on B0) hz s1 s2)
  have HR := Lib.hid (RBox.new w r.freq r.every r.count r.till (.slice am r.months.length cm) (.slice ad r.days.length cd) (.slice aw r.weeks.length cw) (.slice ap r.pick.length cp) 25)
  have HB := Lib.hid B0
  clear B0 hv hz
  go_enter Tryz.func53, Tryz.ntmps53
  go_wp2_with fail
  generalize w.alloc (.cells #[.int .i64 r.freq, .int .i64 r.every, .int .i64 r.count, .int .i64 r.till, .slice am r.months.length cm, .slice ad r.days.length cd, .slice aw r.weeks.length cw, .slice ap r.pick.length cp] 25) = W0 at HB KB HR ⊢
  refine KB.out.mono ?_
  rintro e w1 ⟨⟨a, m, bo, rfl, hbg⟩, hb⟩
  have B1 := Lib.hid (HB.out.trans (hb.mono HB.out.size))
  have R1 := Lib.hid (HR.out.on hb)
  clear hb KB HB HR
  rcases hbg with ⟨ho, rfl⟩ | ⟨rfl, ho⟩
  · have N0 : Hid (pD r s k = none) := Lib.hid (by unfold pD; rw [ho])
    clear ho
    go_wp2
    go_ret2
    exact ⟨B1.out, Or.inl ⟨N0.out, rfl⟩⟩
  have N1 : Hid (pD r s k = some (perD r s a (min m 109573))) := Lib.hid (by unfold pD; rw [ho])
  have LN := pE_len ho
  obtain ⟨a1, ab, bL⟩ := pE_in ho
  obtain ⟨b, hbm⟩ : ∃ b, b = min m 109573 := ⟨_, rfl⟩
  rw [← hbm] at N1 LN ab bL
  have HBM := Lib.hid hbm
  clear ho hbm
  go_wp2_with fail
  go_loopw [11, 12] (fun lv nv wr => ∃ j : Nat, j ≤ (b + 1 - a).toNat ∧ nv = .int .i64 (a + (j : Int)) ∧ wr.ownsRow w1.heap.size 3 1 lv (ask (comp r s) a j).length (nums (ask (comp r s) a j)) ∧ Below w1.heap.size w1 wr) (fun _ nv _ => (b + 1 - intOf nv).toNat)
  case atStart => exact ⟨0, Nat.zero_le _, by simp, World.ownsRow_nil _ _ _ _, Below.refl _ _⟩
  case round =>
    obtain ⟨j, hj, rfl, hown, hB⟩ := hrel
    have HO := Lib.hid hown
    have Bw := B1.out.trans (hB.mono B1.out.size)
    have Rw := R1.out.on hB
    have AL := ask_len (comp r s) a j
    clear hown
    by_cases hlt : a + (j : Int) ≤ b
    · obtain ⟨n, hn⟩ : ∃ n, n = a + (j : Int) := ⟨_, rfl⟩
      rw [← hn] at hlt
      rw [← hn]
      have n1 : 1 ≤ n := by omega
      have n2 : n ≤ 109573 := by omega
      have n3 : n ≤ m := by have := HBM.out; omega
      have J1 : Hid (n + 1 = a + ((j + 1 : Nat) : Int)) := Lib.hid (by omega)
      have J2 : j + 1 ≤ (b + 1 - a).toNat := by omega
      have ME : Hid ((b + 1 - (n + 1)).toNat < (b + 1 - n).toNat) := Lib.hid (by omega)
      have AN := Lib.hid (ask_next (comp r s) a j)
      rw [← hn] at AN
      have KQ := Lib.hid (KW.out n n1 n2 wr Bw)
      rw [WA.out n n1 n2] at KQ
      have HBr := Lib.hid hB
      have rl := Rw.lt
      obtain ⟨x0, x1, x2, x3, x4, x5, x6, x7⟩ := Rw
      clear hn hB Bw
      generalize ask (comp r s) a j = xs at HO AN AL
      rcases hq : askB (comp r s) n with _ | _
      · rw [hq] at KQ
        have M1 : Hid (ask (comp r s) a (j + 1) = xs) := Lib.hid (by rw [AN.out, if_neg (by rw [hq]; decide)])
        clear hq AN
        go_wp2_with fail
        clear x0 x1 x2 x3 x4 x5 x6 x7 rl
        refine KQ.out.mono ?_
        rintro e w2 ⟨rfl, hb⟩
        have B2 := Lib.hid (HBr.out.trans (hb.mono HBr.out.size))
        have O2 := Lib.hid (ow_below HO.out hb)
        clear hb KQ HO HBr
        go_wp2
        go_roundw
        case rel => exact ⟨j + 1, J2, by rw [J1.out], by rw [M1.out]; exact O2.out, B2.out⟩
        case measure => exact ME.out
      · rw [hq] at KQ
        have M1 : Hid (ask (comp r s) a (j + 1) = xs ++ [n]) := Lib.hid (by rw [AN.out, if_pos hq])
        clear hq AN
        go_wp2_with fail
        clear x0 x1 x2 x3 x4 x5 x6 x7 rl
        refine KQ.out.mono ?_
        rintro e w2 ⟨rfl, hb⟩
        have B2' := HBr.out.trans (hb.mono HBr.out.size)
        have B2 := Lib.hid B2'
        have sz := B2'.size
        have O2 := Lib.hid (ow_below HO.out hb)
        clear hb KQ HO HBr B2'
        go_wp2_with (at_builtin; refine wpList_append_own _ rfl _ _ 22 rfl w1.heap.size 3 i0 (.int .i64 0) 1 8 Tryz.underlying22 hi hz0 hz1 hz2 rfl (by decide) _ _ _ rfl (O2.out.alloc _) ⟨w2.heap.size, 0, none⟩ 1 1 [.int .i64 n] rfl rfl ?c1 ?c2 ?c3 ?c4 ?c5 ?_)
        case c1 =>
          intro j u hj
          match j, hj with
          | 0, hj => simp at hj; subst hj; simp [Addr.add]
        case c2 => intro u hu; simp at hu; subst hu; rfl
        case c3 => unfold maxLen; omega
        case c4 => omega
        case c5 => simp; omega
        intro v' w3 hown' hgrow _
        have Q2 := Lib.hid (ow_grow B2.out.size B2.out (Below.refl _ _) O2.out hgrow)
        have Q1 := Lib.hid hown'
        rw [← nums_snoc] at Q1
        clear hown' hgrow O2
        go_wp2
        go_roundw
        case rel => exact ⟨j + 1, J2, by rw [J1.out], by rw [M1.out, List.length_append]; exact Q1.out, Q2.out⟩
        case measure => exact ME.out
    · obtain rfl : j = (b + 1 - a).toNat := by omega
      have ED : Hid (allD r s a b = ask (comp r s) a (b + 1 - a).toNat) := Lib.hid rfl
      have IL := Lib.hid (ow_ints HO.out)
      have FL := Lib.hid (show Fr w.heap.size _ from fun g hg => Nat.le_trans B1.out.size (HO.out.lt g hg).1)
      rw [← ED.out] at IL HO AL
      have nb : a + (((b + 1 - a).toNat : Nat) : Int) = b + 1 := by omega
      rw [nb]
      have DL : (allD r s a b).length ≤ 401 := by omega
      obtain ⟨la, lc, el, _⟩ := id IL.out
      subst el
      have rl := Rw.lt
      have HRw := Lib.hid Rw
      obtain ⟨x0, x1, x2, x3, x4, x5, x6, x7⟩ := Rw
      have HBw := Lib.hid Bw
      have HBr := Lib.hid hB
      have bm : ¬ (b + 1 ≤ m ∧ b + 1 ≤ 109573) := by have := HBM.out; omega
      clear hlt hj hB Bw nb HO AL ED
      rcases hp0 : ((r.pick.length : Int) == 0) with _ | _
      · have EP : Hid (perD r s a b = pickK r.pick (allD r s a b) (allD r s a b).length) := Lib.hid (by unfold perD pick; rw [if_neg (by have := beq_eq_false_iff_ne.1 hp0; omega)])
        have PI : Hid (∀ W, Below wr.heap.size wr W → Ints W (.slice ap r.pick.length cp) r.pick) := Lib.hid (fun W q => by
          obtain ⟨vm, vd, vw, vp, e, h⟩ := HP.out _ (HBw.out.trans (q.mono HBw.out.size))
          obtain rfl : vp = .slice ap r.pick.length cp := by simp at e; exact e.2.2.2.symm
          exact h)
        obtain ⟨days, hdays⟩ : ∃ days, days = allD r s a b := ⟨_, rfl⟩
        rw [← hdays] at EP DL IL
        rw [← hdays]
        clear hdays
        rcases (by omega : m < b + 1 ∨ (b + 1 ≤ m ∧ 109573 < b + 1)) with g | ⟨g, g'⟩
        all_goals
          go_wp2_with fail
          clear x0 x1 x2 x3 x4 x5 x6 x7 rl
          go_loopw [14, 15] (fun ov iv wx => ∃ i : Nat, i ≤ days.length ∧ iv = .int .i64 i ∧ wx.ownsRow wr.heap.size 3 1 ov (pickK r.pick days i).length (nums (pickK r.pick days i)) ∧ Below wr.heap.size wr wx) (fun _ iv _ => days.length - (intOf iv).toNat)
          case atStart => exact ⟨0, Nat.zero_le _, rfl, World.ownsRow_nil _ _ _ _, Below.refl _ _⟩
          case round =>
            obtain ⟨i, hi', rfl, hown, hB⟩ := hrel
            obtain ⟨wx, hwx⟩ := wname hB
            subst hwx
            have HO := Lib.hid hown
            have PK := pickK_len r.pick days i
            clear hown
            by_cases hlt : i < days.length
            · obtain ⟨la', lc', e', hc⟩ := IL.out.on hB
              obtain ⟨rfl, rfl⟩ : la = la' ∧ lc = lc' := by simpa using e'
              rcases hc with hc | ⟨lb, lo, rfl, hc⟩
              · rw [hc] at hlt; simp at hlt
              have k1 := hc i hlt
              obtain ⟨x, hx⟩ : ∃ x, x = days.getD i 0 := ⟨_, rfl⟩
              rw [← hx] at k1
              have HX := Lib.hid hx
              have NX := Lib.hid (pickK_next r.pick days i)
              have K1 := Lib.hid (refIn_any _ r.pick ((i : Int) + 1) _ (PI.out _ hB) (by omega))
              have K2 := Lib.hid (refIn_any _ r.pick ((i : Int) - (days.length : Int)) _ (PI.out _ hB) (by omega))
              obtain ⟨A, hA⟩ : ∃ A, A = r.pick.contains ((i : Int) + 1) := ⟨_, rfl⟩
              obtain ⟨C, hC⟩ : ∃ C, C = r.pick.contains ((i : Int) - (days.length : Int)) := ⟨_, rfl⟩
              have EN : Hid (nameB r.pick ((i : Int) + 1) (days.length : Int) = (A || C)) := Lib.hid (by unfold nameB; rw [show (i : Int) + 1 - (days.length : Int) - 1 = (i : Int) - (days.length : Int) by omega, hA, hC])
              rw [← hA] at K1
              rw [← hC] at K2
              rw [EN.out, ← HX.out] at NX
              have Rw := HRw.out.on hB
              have rl := Rw.lt
              have x7 := Rw.2.2.2.2.2.2.2
              have HBx := Lib.hid hB
              have szx := hB.size
              clear hx hc e' hA hC EN Rw hB
              generalize hs : pickK r.pick days i = xs at HO NX PK
              clear hs
              rcases A with _ | _
              · rcases C with _ | _
                · have M1 : Hid (pickK r.pick days (i + 1) = xs) := Lib.hid (by rw [NX.out]; rfl)
                  go_wp2_with fail
                  refine K1.out.mono ?_
                  rintro e w2 ⟨rfl, hw⟩
                  replace hw := hw.symm
                  subst hw
                  go_wp2_with fail
                  refine K2.out.mono ?_
                  rintro e w2 ⟨rfl, hw⟩
                  replace hw := hw.symm
                  subst hw
                  go_wp2
                  go_roundw
                  case rel => exact ⟨i + 1, by omega, by go_num, by rw [M1.out]; exact HO.out, HBx.out⟩
                  case measure => simp [intOf]; omega
                · have M1 : Hid (pickK r.pick days (i + 1) = xs ++ [x]) := Lib.hid (by rw [NX.out]; rfl)
                  go_wp2_with fail
                  refine K1.out.mono ?_
                  rintro e w2 ⟨rfl, hw⟩
                  replace hw := hw.symm
                  subst hw
                  go_wp2_with fail
                  refine K2.out.mono ?_
                  rintro e w2 ⟨rfl, hw⟩
                  replace hw := hw.symm
                  subst hw
                  go_wp2_with (at_builtin; refine wpList_append_own _ rfl _ _ 22 rfl wr.heap.size 3 i0 (.int .i64 0) 1 8 Tryz.underlying22 hi hz0 hz1 hz2 rfl (by decide) _ _ _ rfl (HO.out.alloc _) ⟨wx.heap.size, 0, none⟩ 1 1 [.int .i64 x] rfl rfl ?d1 ?d2 ?d3 ?d4 ?d5 ?_)
                  case d1 =>
                    intro j u hj
                    match j, hj with
                    | 0, hj => simp at hj; subst hj; simp [Addr.add]
                  case d2 => intro u hu; simp at hu; subst hu; rfl
                  case d3 => unfold maxLen; omega
                  case d4 => omega
                  case d5 => simp; omega
                  intro v' w3 hown' hgrow _
                  have Q2 := Lib.hid (ow_grow HBx.out.size HBx.out (Below.refl _ _) HO.out hgrow)
                  have Q1 := Lib.hid hown'
                  rw [← nums_snoc] at Q1
                  clear hown' hgrow HO k1 x7 rl
                  go_wp2
                  go_roundw
                  case rel => exact ⟨i + 1, by omega, by go_num, by rw [M1.out, List.length_append]; exact Q1.out, Q2.out⟩
                  case measure => simp [intOf]; omega
              · have M1 : Hid (pickK r.pick days (i + 1) = xs ++ [x]) := Lib.hid (by rw [NX.out]; rfl)
                go_wp2_with fail
                refine K1.out.mono ?_
                rintro e w2 ⟨rfl, hw⟩
                replace hw := hw.symm
                subst hw
                go_wp2_with fail
                refine K2.out.mono ?_
                rintro e w2 ⟨rfl, hw⟩
                replace hw := hw.symm
                subst hw
                go_wp2_with (at_builtin; refine wpList_append_own _ rfl _ _ 22 rfl wr.heap.size 3 i0 (.int .i64 0) 1 8 Tryz.underlying22 hi hz0 hz1 hz2 rfl (by decide) _ _ _ rfl (HO.out.alloc _) ⟨wx.heap.size, 0, none⟩ 1 1 [.int .i64 x] rfl rfl ?d1 ?d2 ?d3 ?d4 ?d5 ?_)
                case d1 =>
                  intro j u hj
                  match j, hj with
                  | 0, hj => simp at hj; subst hj; simp [Addr.add]
                case d2 => intro u hu; simp at hu; subst hu; rfl
                case d3 => unfold maxLen; omega
                case d4 => omega
                case d5 => simp; omega
                intro v' w3 hown' hgrow _
                have Q2 := Lib.hid (ow_grow HBx.out.size HBx.out (Below.refl _ _) HO.out hgrow)
                have Q1 := Lib.hid hown'
                rw [← nums_snoc] at Q1
                clear hown' hgrow HO k1 x7 rl
                go_wp2
                go_roundw
                case rel => exact ⟨i + 1, by omega, by go_num, by rw [M1.out, List.length_append]; exact Q1.out, Q2.out⟩
                case measure => simp [intOf]; omega
            · obtain rfl : i = days.length := by omega
              have RR := Lib.hid (ow_ints HO.out)
              have RF := Lib.hid (show Fr w.heap.size _ from fun g hg => Nat.le_trans HBw.out.size (HO.out.lt g hg).1)
              rw [← EP.out] at RR
              have BX := Lib.hid (HBw.out.trans (hB.mono HBw.out.size))
              clear hlt hi' hB HO PK
              go_wp2
              go_ret2
              exact ⟨BX.out, Or.inr ⟨_, _, N1.out, rfl, RR.out, RF.out⟩⟩
      · have EP : Hid (perD r s a b = allD r s a b) := Lib.hid (by unfold perD pick; rw [if_pos (by have := beq_iff_eq.1 hp0; omega)])
        rcases (by omega : m < b + 1 ∨ (b + 1 ≤ m ∧ 109573 < b + 1)) with g | ⟨g, g'⟩
        all_goals
          go_wp2
          go_ret2
          exact ⟨HBw.out, Or.inr ⟨_, _, N1.out, rfl, by rw [EP.out]; exact IL.out, FL.out⟩⟩
end Go.Proofs.YtnnpnalfkcngmadGreatDoor
