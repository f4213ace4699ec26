/-
  What is proved here: what the document's Twice answers of a zone with nothing wrong and a time (a contract over the translation).
-/
import Derived.Test.YtnnpnalfkcngmadDoorZoRef
import Derived.Test.YtnnpnalfkcngmadDoorZoTwi
namespace Go.Proofs.YtnnpnalfkcngmadDoor
open Go.RowKit Cal Txt Zo

set_option maxRecDepth 100000 in
set_option maxHeartbeats 8000000 in
theorem refTwice_any (a : Int) (l : List (Int × Int)) (v : Value) (t : Int) (w : World) (hv : ZoneIn w v a l) (hf : zf a l = 0) (t1 : 1 ≤ t) (t2 : t ≤ 157785119) :
    Calls Tryd.prog 15 #[v, .int .i64 t] w fun e w' => ∃ v', e = .returned v' ∧ Ints w' v' (twi a l t) ∧ Below w.heap.size w w' := by
  obtain ⟨i0, hi, hz0, hz1, hz2⟩ := info_parts info_zint
  have HV := Lib.hid (fun W (q : Below w.heap.size w W) => hv.on q)
  have EA := Lib.hid (dtw_twi (t := t) hf)
  have KA := Lib.hid (fun u W (q : Below w.heap.size w W) => refAhead_any a l v u W (hv.on q) hf)
  have LL := (zf_open hf).1
  have ZA := Lib.hid (fun k (q : k ≤ l.length) => zah_in hf q)
  obtain ⟨sa, sc, rfl⟩ := hv.form
  have B0 := (Below.refl w.heap.size w).alloc (Nat.le_refl _) (.cells #[.int .i64 a, .slice sa l.length sc] 34)
  have HB := Lib.hid B0
  have hz := Lib.hid (ZBox.new w a (.slice sa l.length sc) 34)
  have hs : (w.alloc (.cells #[.int .i64 a, .slice sa l.length sc] 34)).heap.size = w.heap.size + 1 := by simp
  clear hv B0 hf
  go_enter Tryd.func15, Tryd.ntmps15
  have ow0 : Hid ((w.alloc (.cells #[.int .i64 a, .slice sa l.length sc] 34)).ownsRow (w.heap.size + 1) 3 1 (.slice none 0 0) 0 []) := Lib.hid (World.ownsRow_nil _ _ _ _)
  go_wp2_with (at_builtin; refine wpList_append_own _ rfl _ _ 22 rfl (w.heap.size + 1) 3 i0 (.int .i64 0) 1 8 Tryd.underlying22 hi hz0 hz1 hz2 rfl (by decide) _ _ _ rfl (ow0.out.alloc _) ⟨w.heap.size + 1, 0, none⟩ 1 1 [.int .i64 a] rfl rfl ?c1 ?c2 ?c3 ?c4 ?c5 ?_)
  case c1 =>
    intro j u hj
    match j, hj with
    | 0, hj => simp at hj; subst hj; simp [Addr.add]
  case c2 => intro u hu; simp at hu; subst hu; rfl
  case c3 => unfold maxLen; omega
  case c4 => omega
  case c5 => simp
  intro v1 w1 hown hgrow _
  have O1 := Lib.hid hown
  have G0 : Below (w.heap.size + 1) (w.alloc (.cells #[.int .i64 a, .slice sa l.length sc] 34)) w1 := ((Below.refl _ _).alloc (by omega) _).grown hgrow (by simp) (fun g hg => by cases hg)
  have B1 := Lib.hid (HB.out.trans (G0.mono (Nat.le_succ _)))
  have z1 := Lib.hid (hz.out.on (by rw [hs]; exact G0))
  have sz1 : w.heap.size + 1 ≤ w1.heap.size := by have := G0.size; omega
  clear hown hgrow G0 HB hz ow0 hs
  go_wp2_with fail
  go_loopw [5, 6] (fun lv i wr => ∃ k : Nat, k ≤ l.length ∧ i = .int .i64 k ∧ wr.ownsRow (w.heap.size + 1) 3 1 lv (k + 1) (nums (ahs a l k)) ∧ Below (w.heap.size + 1) w1 wr) (fun _ i _ => l.length - (intOf i).toNat)
  case atStart => exact ⟨0, Nat.zero_le _, rfl, O1.out, Below.refl _ _⟩
  case round =>
    obtain ⟨k, hk, rfl, hown, hB⟩ := hrel
    have HO := Lib.hid hown
    have Bw := B1.out.trans (hB.mono (Nat.le_succ _))
    have zlt : w.heap.size < w1.heap.size := by omega
    have zb1 : ZBox wr w.heap.size a (.slice sa l.length sc) := ⟨(hB.cell (p := ⟨w.heap.size, 0, none⟩) (Nat.lt_succ_self _)).trans z1.out.1, (hB.cell (p := ⟨w.heap.size, 1, none⟩) (Nat.lt_succ_self _)).trans z1.out.2⟩
    have zltr := zb1.lt
    have HZr := Lib.hid zb1
    obtain ⟨q1, q2⟩ := zb1
    clear hown
    by_cases hlt : k < l.length
    · obtain ⟨_, e', sa', sc', rfl, hc⟩ := HV.out _ Bw
      obtain ⟨rfl, rfl⟩ : sa = sa' ∧ sc = sc' := by simpa using e'
      rcases hc with hc | ⟨b, off, rfl, hc⟩
      · rw [hc] at hlt; simp at hlt
      have k2 := (hc k hlt).2
      obtain ⟨y, hy⟩ : ∃ y, y = (l.getD k (0, 0)).2 := ⟨_, rfl⟩
      rw [← hy] at k2
      have N1 : Hid (nums (ahs a l (k + 1)) = nums (ahs a l k) ++ [.int .i64 y]) := Lib.hid (by rw [ahs_next a l k hlt, nums_snoc, hy])
      have bl := zcell_in k2
      have HBB := Lib.hid hB
      have sz : w.heap.size + 1 ≤ wr.heap.size := by omega
      clear hc e' hy Bw hB
      go_wp2_with (at_builtin; refine wpList_append_own _ rfl _ _ 22 rfl (w.heap.size + 1) 3 i0 (.int .i64 0) 1 8 Tryd.underlying22 hi hz0 hz1 hz2 rfl (by decide) _ _ _ rfl (HO.out.alloc _) ⟨wr.heap.size, 0, none⟩ 1 1 [.int .i64 y] rfl rfl ?d1 ?d2 ?d3 ?d4 ?d5 ?_)
      case d1 =>
        intro j u hj
        match j, hj with
        | 0, hj => simp at hj; subst hj; simp [Addr.add]
      case d2 => intro u hu; simp at hu; subst hu; rfl
      case d3 => unfold maxLen; omega
      case d4 => omega
      case d5 => simp; omega
      intro v' w3 hown' hgrow _
      have R2 := Lib.hid (ow_grow sz HBB.out (Below.refl _ _) HO.out hgrow)
      have R1 := Lib.hid hown'
      rw [← N1.out] at R1
      clear hown' hgrow HO q1 q2 k2
      go_wp2
      go_roundw
      case rel => exact ⟨k + 1, by omega, by go_num, R1.out, R2.out⟩
      case measure => simp [intOf]; omega
    · obtain rfl : k = l.length := by omega
      have IA := Lib.hid (ow_ints HO.out)
      have LA := Lib.hid (ahs_len a l l.length (Nat.le_refl _))
      obtain ⟨xa, xc, ex, _⟩ := id IA.out
      rw [LA.out] at ex
      subst ex
      have KI := Lib.hid (fun x W (q : Below wr.heap.size wr W) => Zo.refIn_any _ (ahs a l l.length) x W (IA.out.on q) (by rw [LA.out]; omega))
      have HBw := Lib.hid Bw
      clear HO O1 Bw hB hlt hk
      go_wp2_with fail
      clear q1 q2
      go_loopw [7, 8] (fun ov nv wx => ∃ c : Nat, c ≤ 1801 ∧ nv = .int .i64 (900 - (c : Int)) ∧ wx.ownsRow wr.heap.size 3 1 ov (dtw a l t c).length (nums (dtw a l t c)) ∧ Below wr.heap.size wr wx) (fun _ nv _ => (intOf nv + 901).toNat)
      case atStart => exact ⟨0, Nat.zero_le _, by simp, World.ownsRow_nil _ _ _ _, Below.refl _ _⟩
      case round =>
        rename_i wx
        obtain ⟨c, hc, rfl, hown, hB⟩ := hrel
        have HO := Lib.hid hown
        have Bw := HBw.out.trans (hB.mono HBw.out.size)
        have zb := HZr.out.on hB
        have zltx := zb.lt
        obtain ⟨q1, q2⟩ := zb
        have PK := dtw_len a l t c
        clear hown
        by_cases hlt : c < 1801
        · obtain ⟨n, hn⟩ : ∃ n, n = 900 - (c : Int) := ⟨_, rfl⟩
          have J1 : Hid (n - 1 = 900 - ((c + 1 : Nat) : Int)) := Lib.hid (by omega)
          have n1 : -900 ≤ n := by omega
          have n2 : n ≤ 900 := by omega
          have ME : Hid ((n - 1 + 901).toNat < (n + 901).toNat) := Lib.hid (by omega)
          have N1 : Hid (∀ b, hitD a l t n = b → dtw a l t (c + 1) = if b = true then dtw a l t c ++ [t - n] else dtw a l t c) := Lib.hid (fun b hb => by rw [hn, ← hb, hn]; rfl)
          rw [← hn]
          have KN := Lib.hid (KI.out n _ hB)
          have HBx := Lib.hid hB
          clear hn hB
          generalize hs : dtw a l t c = xs at HO N1 PK
          clear hs
          rcases hcn : (ahs a l l.length).contains n with _ | _
          · have M1 : Hid (dtw a l t (c + 1) = xs) := Lib.hid ((N1.out false (by unfold hitD; rw [hcn, Bool.false_and])).trans (if_neg (by decide)))
            rw [hcn] at KN
            clear hcn N1
            go_wp2_with fail
            refine KN.out.mono ?_
            rintro e w4 ⟨rfl, hw⟩
            subst hw
            go_wp2_with fail
            refine (zrefTime _ _).mono ?_
            rintro e w5 ⟨rfl, hw⟩
            subst hw
            clear q1 q2
            go_wp2
            go_roundw
            case rel => exact ⟨c + 1, by omega, by rw [J1.out], by rw [M1.out]; exact HO.out, HBx.out⟩
            case measure => exact ME.out
          rw [hcn] at KN
          by_cases hT : 1 ≤ t - n ∧ t - n ≤ 157785119
          case neg =>
            have M1 : Hid (dtw a l t (c + 1) = xs) := Lib.hid ((N1.out false (by unfold hitD; rw [hcn, show isT (t - n) = false from decide_eq_false hT]; rfl)).trans (if_neg (by decide)))
            clear hcn N1
            go_wp2_with fail
            refine KN.out.mono ?_
            rintro e w4 ⟨rfl, hw⟩
            subst hw
            go_wp2_with fail
            refine (zrefTime_no _ _ hT).mono ?_
            rintro e w5 ⟨rfl, hw⟩
            subst hw
            clear q1 q2
            go_wp2
            go_roundw
            case rel => exact ⟨c + 1, by omega, by rw [J1.out], by rw [M1.out]; exact HO.out, HBx.out⟩
            case measure => exact ME.out
          have KH := Lib.hid (KA.out (t - n) _ Bw)
          obtain ⟨y, hy⟩ : ∃ y, y = zah a l (beg (t - n) l) := ⟨_, rfl⟩
          rw [← hy] at KH
          have HIT : Hid (hitD a l t n = (y == n)) := Lib.hid (by unfold hitD; rw [hcn, show isT (t - n) = true from decide_eq_true hT, ← hy]; rfl)
          clear hcn hy
          rcases hq : (y == n) with _ | _
          · have M1 : Hid (dtw a l t (c + 1) = xs) := Lib.hid ((N1.out false (HIT.out.trans hq)).trans (if_neg (by decide)))
            clear N1 HIT
            go_wp2_with fail
            refine KN.out.mono ?_
            rintro e w4 ⟨rfl, hw⟩
            subst hw
            go_wp2_with fail
            refine (zrefTime_yes _ _ hT).mono ?_
            rintro e w5 ⟨rfl, hw⟩
            subst hw
            go_wp2_with fail
            refine KH.out.mono ?_
            rintro e w6 ⟨rfl, hb⟩
            have O6 := Lib.hid (ow_below HO.out hb)
            have B6 := Lib.hid (HBx.out.trans (hb.mono HBx.out.size))
            clear q1 q2 hb
            go_wp2
            go_roundw
            case rel => exact ⟨c + 1, by omega, by rw [J1.out], by rw [M1.out]; exact O6.out, B6.out⟩
            case measure => exact ME.out
          · have M1 : Hid (dtw a l t (c + 1) = xs ++ [t - n]) := Lib.hid ((N1.out true (HIT.out.trans hq)).trans (if_pos rfl))
            clear N1 HIT
            go_wp2_with fail
            refine KN.out.mono ?_
            rintro e w4 ⟨rfl, hw⟩
            subst hw
            go_wp2_with fail
            refine (zrefTime_yes _ _ hT).mono ?_
            rintro e w5 ⟨rfl, hw⟩
            subst hw
            go_wp2_with fail
            refine KH.out.mono ?_
            rintro e w6 ⟨rfl, hb⟩
            have O6 := Lib.hid (ow_below HO.out hb)
            have B6 := HBx.out.trans (hb.mono HBx.out.size)
            have sz6 := B6.size
            have HB6 := Lib.hid B6
            clear q1 q2 hb B6
            go_wp2_with (at_builtin; refine wpList_append_own _ rfl _ _ 22 rfl wr.heap.size 3 i0 (.int .i64 0) 1 8 Tryd.underlying22 hi hz0 hz1 hz2 rfl (by decide) _ _ _ rfl (O6.out.alloc _) ⟨w6.heap.size, 0, none⟩ 1 1 [.int .i64 (t - n)] rfl rfl ?f1 ?f2 ?f3 ?f4 ?f5 ?_)
            case f1 =>
              intro j u hj
              match j, hj with
              | 0, hj => simp at hj; subst hj; simp [Addr.add]
            case f2 => intro u hu; simp at hu; subst hu; rfl
            case f3 => unfold maxLen; omega
            case f4 => omega
            case f5 => simp; omega
            intro v' w7 hown' hgrow _
            have R2 := Lib.hid (ow_grow HB6.out.size HB6.out (Below.refl _ _) O6.out hgrow)
            have R1 := Lib.hid hown'
            rw [← nums_snoc] at R1
            clear hown' hgrow O6
            go_wp2
            go_roundw
            case rel => exact ⟨c + 1, by omega, by rw [J1.out], by rw [M1.out, List.length_append]; exact R1.out, R2.out⟩
            case measure => exact ME.out
        · obtain rfl : c = 1801 := by omega
          have RR := Lib.hid (ow_ints HO.out)
          rw [EA.out] at RR
          have EN : Hid ((900 : Int) - ((1801 : Nat) : Int) = -901) := Lib.hid (by omega)
          rw [EN.out]
          go_wp2
          go_ret
          exact ⟨_, rfl, RR.out, Bw⟩
end Go.Proofs.YtnnpnalfkcngmadDoor
