/-
  What is proved here: what package month's leaf answers, and its closure that tells what stands at a place (contracts over the translation); a function value that tells which days are marked is asked as a premise.
-/
import Derived.Test.YtikpfeaidgeebaaDoorMoNum
import Derived.Test.YtikpfeaidgeebaaDoorLnTxs
import Derived.Test.YtikpfeaidgeebaaDoorDay
import Derived.Laws.EntriesVeiled
import Derived.Deep.RegionHeld3
import Derived.Deep.CutRange
namespace Go.Proofs.YtikpfeaidgeebaaDoor.Mo
open Go.RowKit Cal Txt

theorem cin {w : World} {b o : Nat} {v : Value} (h : w.cell? ⟨b, o, none⟩ = some v) : b < w.heap.size := by
  rcases Nat.lt_or_ge b w.heap.size with q | q
  · exact q
  · simp [World.cell?, Array.getElem?_eq_none q] at h
/-- What the closure holds: the first day, the last one, which are marked. -/
def Hd (w : World) (b1 b2 b3 : Nat) (F T : Int) (fv : Value) : Prop := w.cell? ⟨b1, 0, none⟩ = some (.int .i64 F) ∧ w.cell? ⟨b2, 0, none⟩ = some (.int .i64 T) ∧ w.cell? ⟨b3, 0, none⟩ = some fv
theorem Hd.on {w w' : World} {b1 b2 b3 : Nat} {F T : Int} {fv : Value} (h : Hd w b1 b2 b3 F T fv) (q : Below w.heap.size w w') : Hd w' b1 b2 b3 F T fv :=
  ⟨(q.cell (p := ⟨b1, 0, none⟩) (cin h.1)).trans h.1, (q.cell (p := ⟨b2, 0, none⟩) (cin h.2.1)).trans h.2.1, (q.cell (p := ⟨b3, 0, none⟩) (cin h.2.2)).trans h.2.2⟩
theorem cnew (W : World) (v : Value) (t : TypeId) : (W.alloc (.cells #[v] t)).cell? ⟨W.heap.size, 0, none⟩ = some v := by simp
theorem cnext {W : World} {b : Nat} {v : Value} (h : W.cell? ⟨b, 0, none⟩ = some v) (o : Obj) : (W.alloc o).cell? ⟨b, 0, none⟩ = some v :=
  (((Below.refl _ _).alloc (Nat.le_refl _) o : Below W.heap.size W (W.alloc o)).cell (p := ⟨b, 0, none⟩) (cin h)).trans h
theorem asize (W : World) (o : Obj) : (W.alloc o).heap.size = W.heap.size + 1 := by simp
theorem Hd.new (W : World) (F T : Int) (fv : Value) (t1 t2 : TypeId) : Hd (((W.alloc (.cells #[.int .i64 F] t1)).alloc (.cells #[.int .i64 T] t1)).alloc (.cells #[fv] t2)) W.heap.size (W.heap.size + 1) (W.heap.size + 2) F T fv := by
  have a := cnext (cnext (cnew W (.int .i64 F) t1) (.cells #[.int .i64 T] t1)) (.cells #[fv] t2)
  have b := cnext (cnew (W.alloc (.cells #[.int .i64 F] t1)) (.int .i64 T) t1) (.cells #[fv] t2)
  have c := cnew ((W.alloc (.cells #[.int .i64 F] t1)).alloc (.cells #[.int .i64 T] t1)) fv t2
  have e1 := asize W (.cells #[.int .i64 F] t1)
  have e2 := asize (W.alloc (.cells #[.int .i64 F] t1)) (.cells #[.int .i64 T] t1)
  rw [e1] at b
  rw [e2, e1] at c
  exact ⟨a, b, c⟩
theorem wname {B : Nat} {a w : World} (_ : Below B a w) : ∃ x, x = w := ⟨w, rfl⟩
theorem three_below (w : World) (a b c : Obj) : Below w.heap.size w (((w.alloc a).alloc b).alloc c) := (((Below.refl _ _).alloc (Nat.le_refl _) _).alloc (by simp) _).alloc (by rw [asize, asize]; omega) _

set_option maxRecDepth 100000 in
set_option maxHeartbeats 1000000 in
theorem place0_any (g : Nat) (p : Int → Bool) (F T n : Int) (b1 b2 b3 : Nat) (w : World) (eg : ∀ args w, (callFunc g args).run Tryd.prog w = .ok (.enter g args) w)
    (hg : F ≤ n → n ≤ T → ∀ W, Below w.heap.size w W → Calls Tryd.prog g #[.int .i64 n] W fun e w' => e = .returned (.bool (p n)) ∧ Below W.heap.size W w')
    (h : Hd w b1 b2 b3 F T (.func (.func g) #[] #[])) (t1 : T < F + 50) :
    Calls Tryd.prog 39 #[.int .i64 n, .pointer (some ⟨b1, 0, none⟩), .pointer (some ⟨b2, 0, none⟩), .pointer (some ⟨b3, 0, none⟩)] w fun e w' => e = .returned (.string (tb (pl F T p n))) ∧ Below w.heap.size w w' := by
  obtain ⟨c1, c2, c3⟩ := h
  have l1 := cin c1
  have l2 := cin c2
  have l3 := cin c3
  by_cases a1 : n < F
  · have N : Hid (pl F T p n = [32, 32, 32]) := Lib.hid (pl_none (Or.inl a1))
    generalize pl F T p n = R at N ⊢
    clear hg
    go_enter Tryd.func39, Tryd.ntmps39
    go_wp2
    go_ret
    exact ⟨by rw [N.out]; rfl, Below.refl _ _⟩
  by_cases a2 : T < n
  · have N : Hid (pl F T p n = [32, 32, 32]) := Lib.hid (pl_none (Or.inr a2))
    generalize pl F T p n = R at N ⊢
    clear hg
    go_enter Tryd.func39, Tryd.ntmps39
    go_wp2
    go_ret
    exact ⟨by rw [N.out]; rfl, Below.refl _ _⟩
  have K := Lib.hid (hg (by omega) (by omega) w (Below.refl _ _))
  clear hg
  rcases hp : p n with _ | _
  · have N : Hid (pl F T p n = [32] ++ nu (n - F + 1).toNat) := Lib.hid (pl_bare (by omega) (by omega) hp)
    generalize pl F T p n = R at N ⊢
    rw [hp] at K
    have hx : (tb (nu (n - F + 1).toNat)).size = 2 := by rw [tb_size, nu_len (by omega)]
    go_enter Tryd.func39, Tryd.ntmps39
    go_wp2_with fail
    refine K.out.mono ?_
    rintro e w1 ⟨rfl, hb⟩
    have B1 := Lib.hid hb
    have d1 := (hb.cell (p := ⟨b1, 0, none⟩) l1).trans c1
    have m1 := cin d1
    clear hb K
    go_wp2_with (go_at_call 40; refine (number_any _ _ (by omega) (by omega)).mono ?_; rintro e w' ⟨rfl, rfl⟩)
    go_ret
    exact ⟨by rw [N.out]; exact congrArg (fun x => Ending.returned (.string x)) (ba_app [32] (nu _)), B1.out⟩
  · have N : Hid (pl F T p n = [42] ++ nu (n - F + 1).toNat) := Lib.hid (pl_mark (by omega) (by omega) hp)
    generalize pl F T p n = R at N ⊢
    rw [hp] at K
    have hx : (tb (nu (n - F + 1).toNat)).size = 2 := by rw [tb_size, nu_len (by omega)]
    go_enter Tryd.func39, Tryd.ntmps39
    go_wp2_with fail
    refine K.out.mono ?_
    rintro e w1 ⟨rfl, hb⟩
    have B1 := Lib.hid hb
    have d1 := (hb.cell (p := ⟨b1, 0, none⟩) l1).trans c1
    have m1 := cin d1
    clear hb K
    go_wp2_with (go_at_call 40; refine (number_any _ _ (by omega) (by omega)).mono ?_; rintro e w' ⟨rfl, rfl⟩)
    go_ret
    exact ⟨by rw [N.out]; exact congrArg (fun x => Ending.returned (.string x)) (ba_app [42] (nu _)), B1.out⟩

set_option maxRecDepth 100000 in
set_option maxHeartbeats 2000000 in
theorem leaf0_any (g : Nat) (p : Int → Bool) (F T : Int) (w : World) (eg : ∀ args w, (callFunc g args).run Tryd.prog w = .ok (.enter g args) w)
    (hg : ∀ n, F ≤ n → n ≤ T → ∀ W, Below w.heap.size w W → Calls Tryd.prog g #[.int .i64 n] W fun e w' => e = .returned (.bool (p n)) ∧ Below W.heap.size W w')
    (f1 : 1 ≤ F) (f2 : T ≤ 109573) (f3 : F + 27 ≤ T) (f4 : T ≤ F + 30) :
    Calls Tryd.prog 24 #[.int .i64 F, .int .i64 T, .func (.func g) #[] #[]] w fun e w' => (∃ v, e = .returned (.tuple #[v, .nilIface]) ∧ Txs w' v (leaf F T p)) ∧ Below w.heap.size w w' := by
  obtain ⟨i0, hi, hz0, hz1, hz2⟩ := info_parts info_str
  have H3 := Hd.new w F T (.func (.func g) #[] #[]) 3 46
  have b3 := three_below w (.cells #[.int .i64 F] 3) (.cells #[.int .i64 T] 3) (.cells #[.func (.func g) #[] #[]] 46)
  have z3 : w.heap.size ≤ (((w.alloc (.cells #[.int .i64 F] 3)).alloc (.cells #[.int .i64 T] 3)).alloc (.cells #[.func (.func g) #[] #[]] 46)).heap.size := b3.size
  obtain ⟨W3, hW3⟩ : ∃ W3, W3 = (((w.alloc (.cells #[.int .i64 F] 3)).alloc (.cells #[.int .i64 T] 3)).alloc (.cells #[.func (.func g) #[] #[]] 46)) := ⟨_, rfl⟩
  rw [← hW3] at H3 b3 z3
  have HW3 := Lib.hid hW3
  have B3 := Lib.hid b3
  have HH3 := Lib.hid H3
  have HG := Lib.hid hg
  obtain ⟨c1, c2, c3⟩ := H3
  have l1 := cin c1
  have l2 := cin c2
  have MB := mn_bd F
  have CB := cnt_bd f3 f4
  have MP := mn_pos f1
  have CL := Lib.hid (cnt_lt (F := F) (T := T))
  have HS : Hid (F - ((F - 1) % 7 + 1) + 1 = mn F + 7 * ((0 : Nat) : Int)) := Lib.hid (by unfold mn; omega)
  clear hW3 b3 hg
  go_enter Tryd.func24, Tryd.ntmps24
  go_upto_region 1 with fail
  rw [← HW3.out]
  go_wp2_with (go_at_call 18; refine (weekday_yes _ _ f1 (by omega)).mono ?_; rintro e w' ⟨rfl, hw⟩; replace hw := hw.symm; subst hw)
  go_loopw [11, 12] (fun lv mv wr => ∃ k : Nat, k ≤ cnt F T ∧ mv = .int .i64 (mn F + 7 * (k : Int)) ∧ wr.ownsRow W3.heap.size 9 1 lv k (strs (rws F T p k)) ∧ Below W3.heap.size W3 wr) (fun _ mv _ => (T + 7 - intOf mv).toNat)
  case atStart => exact ⟨0, Nat.zero_le _, by rw [HS.out], World.ownsRow_nil _ _ _ _, Below.refl _ _⟩
  case round =>
    obtain ⟨k, hk, rfl, hown, hB⟩ := hrel
    have HO := Lib.hid hown
    have HB := Lib.hid hB
    have d2 := (hB.cell (p := ⟨w.heap.size + 1, 0, none⟩) l2).trans c2
    have k2 := cin d2
    clear hown
    obtain ⟨m, hm⟩ : ∃ m, m = mn F + 7 * (k : Int) := ⟨_, rfl⟩
    have HM := Lib.hid hm
    rw [← hm]
    have m1 : 1 ≤ m := by omega
    by_cases hlt : m ≤ T
    · have hk' : k < cnt F T := CL.out k |>.1 (by rw [← hm]; exact hlt)
      clear hm
      go_wp2
      go_loopw [13, 14] (fun sv nv wx => ∃ j : Nat, j ≤ 7 ∧ nv = .int .i64 (m + (j : Int)) ∧ sv = .string (tb (ln F T p m j)) ∧ Below wr.heap.size wr wx) (fun _ nv _ => (m + 7 - intOf nv).toNat)
      case atStart => exact ⟨0, Nat.zero_le _, by simp, rfl, Below.refl _ _⟩
      case round =>
        obtain ⟨j, hj, rfl, rfl, hBx⟩ := hrel
        obtain ⟨wx, hwx⟩ := wname hBx
        subst hwx
        have HBx := Lib.hid hBx
        have B3x : Hid (Below W3.heap.size W3 wx) := Lib.hid (HB.out.trans (hBx.mono HB.out.size))
        have LL := ln_len (F := F) (T := T) (p := p) (by omega) m j
        clear hBx
        by_cases h7 : j < 7
        · obtain ⟨n, hn⟩ : ∃ n, n = m + (j : Int) := ⟨_, rfl⟩
          have K := Lib.hid (place0_any g p F T n w.heap.size (w.heap.size + 1) (w.heap.size + 2) wx eg (fun a b W hW => HG.out n a b W ((B3.out.trans (B3x.out.mono B3.out.size)).trans (hW.mono (B3.out.trans (B3x.out.mono B3.out.size)).size))) (HH3.out.on B3x.out) (by omega))
          have PL := pl_len (F := F) (T := T) (n := n) (p := p) (by omega)
          have N1 : Hid (tb (ln F T p m j) ++ tb (pl F T p n) = tb (ln F T p m (j + 1))) := Lib.hid (by rw [tb_app, hn]; rfl)
          have s1 : (tb (ln F T p m j)).size = 3 * j := by rw [tb_size, LL]
          have s2 : (tb (pl F T p n)).size = 3 := by rw [tb_size, PL]
          have n1 : n < m + 7 := by omega
          have J1 : Hid (n + 1 = m + ((j + 1 : Nat) : Int)) := Lib.hid (by omega)
          have J2 : Hid ((m + 7 - (n + 1)).toNat < (m + 7 - n).toNat) := Lib.hid (by omega)
          have n2 : n ≤ 200000 := by omega
          have n3 : 1 ≤ n := by omega
          have j2 : j + 1 ≤ 7 := by omega
          rw [← hn]
          clear hn LL PL
          generalize tb (ln F T p m j) = X at N1 s1 ⊢
          generalize tb (pl F T p n) = Y at N1 s2 K
          go_wp2_with fail
          refine K.out.mono ?_
          rintro e w2 ⟨rfl, hb⟩
          have B2 := Lib.hid (HBx.out.trans (hb.mono HBx.out.size))
          clear hb K HBx B3x
          go_wp2
          go_roundw
          case rel => exact ⟨j + 1, j2, by rw [J1.out], by rw [N1.out], B2.out⟩
          case measure => exact J2.out
        · obtain rfl : j = 7 := by omega
          have hx0 : Below wr.heap.size wr wx := HBx.out
          have HX0 := Lib.hid hx0
          have HO1 := Lib.hid (own_below HO.out hx0)
          have sz : W3.heap.size ≤ wx.heap.size := B3x.out.size
          have kb : k ≤ 100 := by omega
          have RL := rws_len F T p k
          clear hx0 LL
          generalize hX : tb (ln F T p m 7) = X
          have HX := Lib.hid hX
          clear hX
          go_wp2_with (at_builtin; refine wpList_append_own _ rfl _ _ 23 rfl W3.heap.size 9 i0 (.string ByteArray.empty) 1 16 Tryd.underlying23 hi hz0 hz1 hz2 rfl (by decide) _ _ _ rfl (HO1.out.alloc _) ⟨wx.heap.size, 0, none⟩ 1 1 [.string X] rfl rfl ?c1 ?c2 ?c3 ?c4 ?c5 ?_)
          case c1 =>
            intro j u hj
            match j, hj with
            | 0, hj => simp at hj; subst hj; simp [Addr.add]
          case c2 => intro u hu; simp at hu; subst hu; rfl
          case c3 => unfold maxLen; omega
          case c4 => omega
          case c5 => simp; omega
          intro v' w2 hown' hgrow _
          have R := own_next hB.size hB HX0.out HO.out hown' hgrow
          have N1 := Lib.hid (rws_next F T p k)
          rw [← HM.out, HX.out] at N1
          have R1 := Lib.hid R.1
          have R2 := Lib.hid R.2
          rw [← N1.out] at R1
          have J1 : Hid (m + 7 = mn F + 7 * ((k + 1 : Nat) : Int)) := Lib.hid (by rw [HM.out]; omega)
          have J2 : Hid ((T + 7 - (m + 7)).toNat < (T + 7 - m).toNat) := Lib.hid (by omega)
          clear R hown' hgrow HO1 HO HX0 N1 HB B3x HBx
          go_wp2
          go_roundw
          case rel => exact ⟨k + 1, by omega, by rw [J1.out], R1.out, R2.out⟩
          case measure => exact J2.out
    · have hk' : k = cnt F T := by
        have := CL.out k
        omega
      subst hk'
      go_wp2
      go_ret2
      exact ⟨⟨_, rfl, own_txs HO.out⟩, B3.out.trans (HB.out.mono B3.out.size)⟩

set_option maxRecDepth 100000 in
set_option maxHeartbeats 1000000 in
theorem place1_any (g : Nat) (d : Nat) (p : Int → Bool) (F T n : Int) (b1 b2 b3 : Nat) (w : World) (eg : ∀ args w, (callFunc g args).run Tryd.prog w = .ok (.enter g args) w)
    (hg : F ≤ n → n ≤ T → ∀ W, Below w.heap.size w W → Calls Tryd.prog g #[.int .i64 n, .pointer (some ⟨d, 0, none⟩)] W fun e w' => e = .returned (.bool (p n)) ∧ Below W.heap.size W w')
    (h : Hd w b1 b2 b3 F T (.func (.func g) #[] #[.pointer (some ⟨d, 0, none⟩)])) (t1 : T < F + 50) :
    Calls Tryd.prog 39 #[.int .i64 n, .pointer (some ⟨b1, 0, none⟩), .pointer (some ⟨b2, 0, none⟩), .pointer (some ⟨b3, 0, none⟩)] w fun e w' => e = .returned (.string (tb (pl F T p n))) ∧ Below w.heap.size w w' := by
  obtain ⟨c1, c2, c3⟩ := h
  have l1 := cin c1
  have l2 := cin c2
  have l3 := cin c3
  by_cases a1 : n < F
  · have N : Hid (pl F T p n = [32, 32, 32]) := Lib.hid (pl_none (Or.inl a1))
    generalize pl F T p n = R at N ⊢
    clear hg
    go_enter Tryd.func39, Tryd.ntmps39
    go_wp2
    go_ret
    exact ⟨by rw [N.out]; rfl, Below.refl _ _⟩
  by_cases a2 : T < n
  · have N : Hid (pl F T p n = [32, 32, 32]) := Lib.hid (pl_none (Or.inr a2))
    generalize pl F T p n = R at N ⊢
    clear hg
    go_enter Tryd.func39, Tryd.ntmps39
    go_wp2
    go_ret
    exact ⟨by rw [N.out]; rfl, Below.refl _ _⟩
  have K := Lib.hid (hg (by omega) (by omega) w (Below.refl _ _))
  clear hg
  rcases hp : p n with _ | _
  · have N : Hid (pl F T p n = [32] ++ nu (n - F + 1).toNat) := Lib.hid (pl_bare (by omega) (by omega) hp)
    generalize pl F T p n = R at N ⊢
    rw [hp] at K
    have hx : (tb (nu (n - F + 1).toNat)).size = 2 := by rw [tb_size, nu_len (by omega)]
    go_enter Tryd.func39, Tryd.ntmps39
    go_wp2_with fail
    refine K.out.mono ?_
    rintro e w1 ⟨rfl, hb⟩
    have B1 := Lib.hid hb
    have d1 := (hb.cell (p := ⟨b1, 0, none⟩) l1).trans c1
    have m1 := cin d1
    clear hb K
    go_wp2_with (go_at_call 40; refine (number_any _ _ (by omega) (by omega)).mono ?_; rintro e w' ⟨rfl, rfl⟩)
    go_ret
    exact ⟨by rw [N.out]; exact congrArg (fun x => Ending.returned (.string x)) (ba_app [32] (nu _)), B1.out⟩
  · have N : Hid (pl F T p n = [42] ++ nu (n - F + 1).toNat) := Lib.hid (pl_mark (by omega) (by omega) hp)
    generalize pl F T p n = R at N ⊢
    rw [hp] at K
    have hx : (tb (nu (n - F + 1).toNat)).size = 2 := by rw [tb_size, nu_len (by omega)]
    go_enter Tryd.func39, Tryd.ntmps39
    go_wp2_with fail
    refine K.out.mono ?_
    rintro e w1 ⟨rfl, hb⟩
    have B1 := Lib.hid hb
    have d1 := (hb.cell (p := ⟨b1, 0, none⟩) l1).trans c1
    have m1 := cin d1
    clear hb K
    go_wp2_with (go_at_call 40; refine (number_any _ _ (by omega) (by omega)).mono ?_; rintro e w' ⟨rfl, rfl⟩)
    go_ret
    exact ⟨by rw [N.out]; exact congrArg (fun x => Ending.returned (.string x)) (ba_app [42] (nu _)), B1.out⟩

set_option maxRecDepth 100000 in
set_option maxHeartbeats 2000000 in
theorem leaf1_any (g : Nat) (d : Nat) (p : Int → Bool) (F T : Int) (w : World) (eg : ∀ args w, (callFunc g args).run Tryd.prog w = .ok (.enter g args) w)
    (hg : ∀ n, F ≤ n → n ≤ T → ∀ W, Below w.heap.size w W → Calls Tryd.prog g #[.int .i64 n, .pointer (some ⟨d, 0, none⟩)] W fun e w' => e = .returned (.bool (p n)) ∧ Below W.heap.size W w')
    (f1 : 1 ≤ F) (f2 : T ≤ 109573) (f3 : F + 27 ≤ T) (f4 : T ≤ F + 30) :
    Calls Tryd.prog 24 #[.int .i64 F, .int .i64 T, .func (.func g) #[] #[.pointer (some ⟨d, 0, none⟩)]] w fun e w' => (∃ v, e = .returned (.tuple #[v, .nilIface]) ∧ Txs w' v (leaf F T p)) ∧ Below w.heap.size w w' := by
  obtain ⟨i0, hi, hz0, hz1, hz2⟩ := info_parts info_str
  have H3 := Hd.new w F T (.func (.func g) #[] #[.pointer (some ⟨d, 0, none⟩)]) 3 46
  have b3 := three_below w (.cells #[.int .i64 F] 3) (.cells #[.int .i64 T] 3) (.cells #[.func (.func g) #[] #[.pointer (some ⟨d, 0, none⟩)]] 46)
  have z3 : w.heap.size ≤ (((w.alloc (.cells #[.int .i64 F] 3)).alloc (.cells #[.int .i64 T] 3)).alloc (.cells #[.func (.func g) #[] #[.pointer (some ⟨d, 0, none⟩)]] 46)).heap.size := b3.size
  obtain ⟨W3, hW3⟩ : ∃ W3, W3 = (((w.alloc (.cells #[.int .i64 F] 3)).alloc (.cells #[.int .i64 T] 3)).alloc (.cells #[.func (.func g) #[] #[.pointer (some ⟨d, 0, none⟩)]] 46)) := ⟨_, rfl⟩
  rw [← hW3] at H3 b3 z3
  have HW3 := Lib.hid hW3
  have B3 := Lib.hid b3
  have HH3 := Lib.hid H3
  have HG := Lib.hid hg
  obtain ⟨c1, c2, c3⟩ := H3
  have l1 := cin c1
  have l2 := cin c2
  have MB := mn_bd F
  have CB := cnt_bd f3 f4
  have MP := mn_pos f1
  have CL := Lib.hid (cnt_lt (F := F) (T := T))
  have HS : Hid (F - ((F - 1) % 7 + 1) + 1 = mn F + 7 * ((0 : Nat) : Int)) := Lib.hid (by unfold mn; omega)
  clear hW3 b3 hg
  go_enter Tryd.func24, Tryd.ntmps24
  go_upto_region 1 with fail
  rw [← HW3.out]
  go_wp2_with (go_at_call 18; refine (weekday_yes _ _ f1 (by omega)).mono ?_; rintro e w' ⟨rfl, hw⟩; replace hw := hw.symm; subst hw)
  go_loopw [11, 12] (fun lv mv wr => ∃ k : Nat, k ≤ cnt F T ∧ mv = .int .i64 (mn F + 7 * (k : Int)) ∧ wr.ownsRow W3.heap.size 9 1 lv k (strs (rws F T p k)) ∧ Below W3.heap.size W3 wr) (fun _ mv _ => (T + 7 - intOf mv).toNat)
  case atStart => exact ⟨0, Nat.zero_le _, by rw [HS.out], World.ownsRow_nil _ _ _ _, Below.refl _ _⟩
  case round =>
    obtain ⟨k, hk, rfl, hown, hB⟩ := hrel
    have HO := Lib.hid hown
    have HB := Lib.hid hB
    have d2 := (hB.cell (p := ⟨w.heap.size + 1, 0, none⟩) l2).trans c2
    have k2 := cin d2
    clear hown
    obtain ⟨m, hm⟩ : ∃ m, m = mn F + 7 * (k : Int) := ⟨_, rfl⟩
    have HM := Lib.hid hm
    rw [← hm]
    have m1 : 1 ≤ m := by omega
    by_cases hlt : m ≤ T
    · have hk' : k < cnt F T := CL.out k |>.1 (by rw [← hm]; exact hlt)
      clear hm
      go_wp2
      go_loopw [13, 14] (fun sv nv wx => ∃ j : Nat, j ≤ 7 ∧ nv = .int .i64 (m + (j : Int)) ∧ sv = .string (tb (ln F T p m j)) ∧ Below wr.heap.size wr wx) (fun _ nv _ => (m + 7 - intOf nv).toNat)
      case atStart => exact ⟨0, Nat.zero_le _, by simp, rfl, Below.refl _ _⟩
      case round =>
        obtain ⟨j, hj, rfl, rfl, hBx⟩ := hrel
        obtain ⟨wx, hwx⟩ := wname hBx
        subst hwx
        have HBx := Lib.hid hBx
        have B3x : Hid (Below W3.heap.size W3 wx) := Lib.hid (HB.out.trans (hBx.mono HB.out.size))
        have LL := ln_len (F := F) (T := T) (p := p) (by omega) m j
        clear hBx
        by_cases h7 : j < 7
        · obtain ⟨n, hn⟩ : ∃ n, n = m + (j : Int) := ⟨_, rfl⟩
          have K := Lib.hid (place1_any g d p F T n w.heap.size (w.heap.size + 1) (w.heap.size + 2) wx eg (fun a b W hW => HG.out n a b W ((B3.out.trans (B3x.out.mono B3.out.size)).trans (hW.mono (B3.out.trans (B3x.out.mono B3.out.size)).size))) (HH3.out.on B3x.out) (by omega))
          have PL := pl_len (F := F) (T := T) (n := n) (p := p) (by omega)
          have N1 : Hid (tb (ln F T p m j) ++ tb (pl F T p n) = tb (ln F T p m (j + 1))) := Lib.hid (by rw [tb_app, hn]; rfl)
          have s1 : (tb (ln F T p m j)).size = 3 * j := by rw [tb_size, LL]
          have s2 : (tb (pl F T p n)).size = 3 := by rw [tb_size, PL]
          have n1 : n < m + 7 := by omega
          have J1 : Hid (n + 1 = m + ((j + 1 : Nat) : Int)) := Lib.hid (by omega)
          have J2 : Hid ((m + 7 - (n + 1)).toNat < (m + 7 - n).toNat) := Lib.hid (by omega)
          have n2 : n ≤ 200000 := by omega
          have n3 : 1 ≤ n := by omega
          have j2 : j + 1 ≤ 7 := by omega
          rw [← hn]
          clear hn LL PL
          generalize tb (ln F T p m j) = X at N1 s1 ⊢
          generalize tb (pl F T p n) = Y at N1 s2 K
          go_wp2_with fail
          refine K.out.mono ?_
          rintro e w2 ⟨rfl, hb⟩
          have B2 := Lib.hid (HBx.out.trans (hb.mono HBx.out.size))
          clear hb K HBx B3x
          go_wp2
          go_roundw
          case rel => exact ⟨j + 1, j2, by rw [J1.out], by rw [N1.out], B2.out⟩
          case measure => exact J2.out
        · obtain rfl : j = 7 := by omega
          have hx0 : Below wr.heap.size wr wx := HBx.out
          have HX0 := Lib.hid hx0
          have HO1 := Lib.hid (own_below HO.out hx0)
          have sz : W3.heap.size ≤ wx.heap.size := B3x.out.size
          have kb : k ≤ 100 := by omega
          have RL := rws_len F T p k
          clear hx0 LL
          generalize hX : tb (ln F T p m 7) = X
          have HX := Lib.hid hX
          clear hX
          go_wp2_with (at_builtin; refine wpList_append_own _ rfl _ _ 23 rfl W3.heap.size 9 i0 (.string ByteArray.empty) 1 16 Tryd.underlying23 hi hz0 hz1 hz2 rfl (by decide) _ _ _ rfl (HO1.out.alloc _) ⟨wx.heap.size, 0, none⟩ 1 1 [.string X] rfl rfl ?c1 ?c2 ?c3 ?c4 ?c5 ?_)
          case c1 =>
            intro j u hj
            match j, hj with
            | 0, hj => simp at hj; subst hj; simp [Addr.add]
          case c2 => intro u hu; simp at hu; subst hu; rfl
          case c3 => unfold maxLen; omega
          case c4 => omega
          case c5 => simp; omega
          intro v' w2 hown' hgrow _
          have R := own_next hB.size hB HX0.out HO.out hown' hgrow
          have N1 := Lib.hid (rws_next F T p k)
          rw [← HM.out, HX.out] at N1
          have R1 := Lib.hid R.1
          have R2 := Lib.hid R.2
          rw [← N1.out] at R1
          have J1 : Hid (m + 7 = mn F + 7 * ((k + 1 : Nat) : Int)) := Lib.hid (by rw [HM.out]; omega)
          have J2 : Hid ((T + 7 - (m + 7)).toNat < (T + 7 - m).toNat) := Lib.hid (by omega)
          clear R hown' hgrow HO1 HO HX0 N1 HB B3x HBx
          go_wp2
          go_roundw
          case rel => exact ⟨k + 1, by omega, by rw [J1.out], R1.out, R2.out⟩
          case measure => exact J2.out
    · have hk' : k = cnt F T := by
        have := CL.out k
        omega
      subst hk'
      go_wp2
      go_ret2
      exact ⟨⟨_, rfl, own_txs HO.out⟩, B3.out.trans (HB.out.mono B3.out.size)⟩
end Go.Proofs.YtikpfeaidgeebaaDoor.Mo
