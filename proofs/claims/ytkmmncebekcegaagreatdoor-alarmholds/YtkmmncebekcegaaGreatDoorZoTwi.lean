/-
  What is proved here: what package zone's Twice and World answer of any zone and time (contracts over the translation).
-/
import Derived.Test.YtkmmncebekcegaaGreatDoorZoChk
import Derived.Test.YtkmmncebekcegaaGreatDoorBF
namespace Go.Proofs.YtkmmncebekcegaaGreatDoor
open Go.RowKit Cal Txt Zo

theorem info_zint : (Tryz.prog.info? 3).map (fun i => (i.zero, i.size, i.bytes)) = some (some (.int .i64 0), 1, 8) := by kernel_rfl
/-- What is answered of a list, or of a fault. -/
def LsA (w : World) (f : Int) (xs : List Int) (e : Ending) (w' : World) : Prop :=
  Below w.heap.size w w' ∧ ((f ≠ 0 ∧ e = .returned (.tuple #[.slice none 0 0, .iface 64 (.int .i64 f)])) ∨ (f = 0 ∧ ∃ v, e = .returned (.tuple #[v, .nilIface]) ∧ Ints w' v xs))
set_option maxRecDepth 100000 in
set_option maxHeartbeats 4000000 in
theorem ztwice_any (a : Int) (l : List (Int × Int)) (v : Value) (t : Int) (w : World) (hv : ZoneIn w v a l) :
    Calls Tryz.prog 122 #[v, .int .i64 t] w (LsA w (zt a l t) (twi a l t)) := by
  obtain ⟨i0, hi, hz0, hz1, hz2⟩ := info_parts info_zint
  have HV := Lib.hid (fun W (q : Below w.heap.size w W) => hv.on q)
  obtain ⟨sa, sc, rfl⟩ := hv.form
  have B0 := (Below.refl w.heap.size w).alloc (Nat.le_refl _) (.cells #[.int .i64 a, .slice sa l.length sc] 24)
  have HB := Lib.hid B0
  have hz := Lib.hid (ZBox.new w a (.slice sa l.length sc) 24)
  have KC := Lib.hid (checkBoth_any a l _ t _ (HV.out _ B0))
  clear hv B0
  go_enter Tryz.func122, Tryz.ntmps122
  go_wp2_with fail
  generalize w.alloc (.cells #[.int .i64 a, .slice sa l.length sc] 24) = W0 at HB KC hz ⊢
  refine KC.out.mono ?_
  rintro e w1 ⟨rfl, hb⟩
  have B1 := Lib.hid (HB.out.trans (hb.mono HB.out.size))
  have z1 := hz.out.on hb
  clear hb KC HB hz
  by_cases hf : zt a l t = 0
  case neg =>
    rw [zfault_ne hf]
    have HF := Lib.hid hf
    clear hf z1
    go_wp2
    exact bodyPost_ret (v := .tuple #[.slice none 0 0, .iface 64 (.int .i64 (zt a l t))]) (by simp [results, Tryz.results122, go_sem]) rfl ⟨B1.out, Or.inl ⟨HF.out, rfl⟩⟩
  have HF := Lib.hid hf
  obtain ⟨hz, t1, t2⟩ := zt_open hf
  have LL := (zf_open hz).1
  have ZA := Lib.hid (fun k (q : k ≤ l.length) => zah_in hz q)
  rw [hf, show fault 0 = .nilIface from rfl]
  clear hf hz
  have HZ := Lib.hid z1
  obtain ⟨q1, q2⟩ := z1
  go_wp2_with fail
  clear q1 q2
  go_loopw [7, 21] (fun lv i wr => ∃ k : Nat, k ≤ l.length + 1 ∧ i = .int .i64 k ∧ wr.ownsRow w1.heap.size 3 1 lv (twc a l t k).length (nums (twc a l t k)) ∧ Below w1.heap.size w1 wr) (fun _ i _ => l.length + 1 - (intOf i).toNat)
  case atStart => exact ⟨0, Nat.zero_le _, rfl, World.ownsRow_nil _ _ _ _, Below.refl _ _⟩
  case round =>
    obtain ⟨k, hk, rfl, hown, hB⟩ := hrel
    have HO := Lib.hid hown
    have Bw := B1.out.trans (hB.mono B1.out.size)
    have zb := HZ.out.on hB
    have zlt := zb.lt
    obtain ⟨z1, z2⟩ := zb
    clear hown
    by_cases hlt : k < l.length + 1
    · have KA := Lib.hid (aheadBy_any a l _ k wr (HV.out _ Bw) (by omega) (by omega))
      obtain ⟨za1, za2⟩ := ZA.out k (by omega)
      have PK := twc_len a l t k
      obtain ⟨z, hz⟩ : ∃ z, z = zah a l k := ⟨_, rfl⟩
      have N0 : Hid (hit a l t k = (isT (t - z) && (beg (t - z) l == k))) := Lib.hid (by rw [hz]; rfl)
      have N1 : Hid (∀ b, hit a l t k = b → twc a l t (k + 1) = if b = true then twc a l t k ++ [t - z] else twc a l t k) := Lib.hid (fun b hb => by rw [hz, ← hb]; rfl)
      rw [← hz] at KA za1 za2
      have HBB := Lib.hid hB
      clear hz hB
      generalize hs : twc a l t k = xs at HO N1 PK
      clear hs
      go_wp2_with fail
      refine KA.out.mono ?_
      rintro e w2 ⟨rfl, hb⟩
      have HO2 := Lib.hid (ow_below HO.out hb)
      have B2 := Lib.hid (HBB.out.trans (hb.mono HBB.out.size))
      have Bw2 := Bw.trans (hb.mono Bw.size)
      have zb2 : ZBox w2 w.heap.size a (.slice sa l.length sc) := ZBox.on ⟨z1, z2⟩ hb
      have zlt2 := zb2.lt
      clear hb KA HO HBB z1 z2 zlt Bw
      by_cases hT : 1 ≤ t + -z ∧ t + -z ≤ 157785119
      · have KB := Lib.hid (begun_any a l _ (t + -z) w2 (HV.out _ Bw2) (by omega))
        obtain ⟨n, hn⟩ : ∃ n, n = beg (t + -z) l := ⟨_, rfl⟩
        have NL := beg_le (t + -z) l
        rw [← hn] at KB NL
        have IT : Hid (isT (t - z) = true) := Lib.hid (decide_eq_true (by omega))
        have HN := Lib.hid hn
        clear hn
        obtain ⟨x1, x2⟩ := zb2
        go_wp2_with fail
        refine (add_yes t (-z) _ t1 t2 hT.1 hT.2).mono ?_
        rintro e w3 ⟨rfl, rfl⟩
        rcases hq : ((n : Int) == (k : Int)) with _ | _
        · have M1 : Hid (twc a l t (k + 1) = xs) := Lib.hid (by
            refine (N1.out false ?_).trans (if_neg (by decide))
            rw [N0.out, IT.out, show t - z = t + -z by omega, ← HN.out]
            have := beq_eq_false_iff_ne.1 hq
            simp; omega)
          go_wp2_with fail
          refine KB.out.mono ?_
          rintro e w4 ⟨rfl, hb⟩
          have HO4 := Lib.hid (ow_below HO2.out hb)
          have B4 := Lib.hid (B2.out.trans (hb.mono B2.out.size))
          clear hb KB HO2 B2 x1 x2 zlt2
          go_wp2
          go_roundw
          case rel => exact ⟨k + 1, by omega, by go_num, by rw [M1.out]; exact HO4.out, B4.out⟩
          case measure => simp [intOf]; omega
        · have M1 : Hid (twc a l t (k + 1) = xs ++ [t + -z]) := Lib.hid (by
            refine (N1.out true ?_).trans ?_
            · rw [N0.out, IT.out, show t - z = t + -z by omega, ← HN.out]
              have := beq_iff_eq.1 hq
              simp; omega
            · rw [if_pos rfl, show t - z = t + -z by omega])
          go_wp2_with fail
          refine KB.out.mono ?_
          rintro e w4 ⟨rfl, hb⟩
          have HO4 := Lib.hid (ow_below HO2.out hb)
          have B4 := B2.out.trans (hb.mono B2.out.size)
          have sz := B4.size
          have HB4 := Lib.hid B4
          clear hb KB HO2 B2 x1 x2 zlt2 B4
          go_wp2_with (at_builtin; refine wpList_append_own _ rfl _ _ 25 rfl w1.heap.size 3 i0 (.int .i64 0) 1 8 Tryz.underlying25 hi hz0 hz1 hz2 rfl (by decide) _ _ _ rfl (HO4.out.alloc _) ⟨w4.heap.size, 0, none⟩ 1 1 [.int .i64 (t + -z)] rfl rfl ?c1 ?c2 ?c3 ?c4 ?c5 ?_)
          case c1 =>
            intro j u hj
            match j, hj with
            | 0, hj => simp at hj; subst hj; simp [Addr.add]
          case c2 => intro u hu; simp at hu; subst hu; rfl
          case c3 => unfold maxLen; omega
          case c4 => omega
          case c5 => simp; omega
          intro v' w5 hown' hgrow _
          have R2 := Lib.hid (ow_grow HB4.out.size HB4.out (Below.refl _ _) HO4.out hgrow)
          have R1 := Lib.hid hown'
          rw [← nums_snoc] at R1
          clear hown' hgrow HO4
          go_wp2
          go_roundw
          case rel => exact ⟨k + 1, by omega, by go_num, by rw [M1.out, List.length_append]; exact R1.out, R2.out⟩
          case measure => simp [intOf]; omega
      · have M1 : Hid (twc a l t (k + 1) = xs) := Lib.hid (by
          refine (N1.out false ?_).trans (if_neg (by decide))
          rw [N0.out, show isT (t - z) = false from decide_eq_false (by omega), Bool.false_and])
        go_wp2_with fail
        refine (add_no t (-z) _ (fun q => hT q.2.2)).mono ?_
        rintro e w3 ⟨rfl, rfl⟩
        clear zb2
        go_wp2
        go_roundw
        case rel => exact ⟨k + 1, by omega, by go_num, by rw [M1.out]; exact HO2.out, B2.out⟩
        case measure => simp [intOf]; omega
    · have RR := Lib.hid (ow_ints HO.out)
      have E1 : Hid (twi a l t = twc a l t k) := Lib.hid (by unfold twi; rw [show l.length + 1 = k by omega])
      go_wp2
      go_ret2
      exact ⟨Bw, Or.inr ⟨HF.out, _, rfl, by rw [E1.out]; exact RR.out⟩⟩
/-- What is wrong where a time of the world is asked for. -/
def zw (a : Int) (l : List (Int × Int)) (t : Int) : Int := if zt a l t = 0 then (if (twi a l t).length = 0 then 8 else 0) else zt a l t
set_option maxHeartbeats 2000000 in
theorem zworld_any (a : Int) (l : List (Int × Int)) (v : Value) (t : Int) (w : World) (hv : ZoneIn w v a l) :
    Calls Tryz.prog 88 #[v, .int .i64 t] w fun e w' => e = NumA (zw a l t) ((twi a l t).getD 0 0) ∧ Below w.heap.size w w' := by
  have HV := Lib.hid (fun W (q : Below w.heap.size w W) => hv.on q)
  obtain ⟨sa, sc, rfl⟩ := hv.form
  have B0 := (Below.refl w.heap.size w).alloc (Nat.le_refl _) (.cells #[.int .i64 a, .slice sa l.length sc] 24)
  have HB := Lib.hid B0
  have KC := Lib.hid (ztwice_any a l _ t _ (HV.out _ B0))
  clear hv B0 HV
  go_enter Tryz.func88, Tryz.ntmps88
  go_wp2_with fail
  generalize w.alloc (.cells #[.int .i64 a, .slice sa l.length sc] 24) = W0 at HB KC ⊢
  refine KC.out.mono ?_
  rintro e w1 ⟨hb, ⟨hf, rfl⟩ | ⟨hf, v1, rfl, hx⟩⟩
  · have B1 := Lib.hid (HB.out.trans (hb.mono HB.out.size))
    have N1 : Hid (zw a l t = zt a l t) := Lib.hid (if_neg hf)
    have HF := Lib.hid hf
    clear hb KC HB hf
    go_wp2
    go_ret2
    exact ⟨by rw [N1.out, NumA_no HF.out]; rfl, B1.out⟩
  · have B1 := Lib.hid (HB.out.trans (hb.mono HB.out.size))
    obtain ⟨av, cv, rfl, hc⟩ := hx
    rcases h0 : (((twi a l t).length : Int) == 0) with _ | _
    · have N1 : Hid (zw a l t = 0) := Lib.hid (by unfold zw; rw [if_pos hf, if_neg (by have := beq_eq_false_iff_ne.1 h0; omega)])
      rcases hc with hc | ⟨b, off, rfl, hc⟩
      · rw [hc] at h0; simp at h0
      have LP : (0 : Int) < ((twi a l t).length : Int) := by have := beq_eq_false_iff_ne.1 h0; omega
      have c0 := hc 0 (by omega)
      rw [Nat.add_zero] at c0
      obtain ⟨x, hx⟩ : ∃ x, x = (twi a l t).getD 0 0 := ⟨_, rfl⟩
      rw [← hx] at c0
      have HX := Lib.hid hx
      clear hb KC HB hf hc hx
      generalize (twi a l t).length = n at h0 LP ⊢
      go_wp2
      go_ret2
      exact ⟨by rw [NumA_yes N1.out, ← HX.out]; rfl, B1.out⟩
    · have N1 : Hid (zw a l t = 8) := Lib.hid (by unfold zw; rw [if_pos hf, if_pos (by have := beq_iff_eq.1 h0; omega)])
      clear hb KC HB hf hc
      generalize (twi a l t).length = n at h0 ⊢
      go_wp2
      go_ret2
      exact ⟨by rw [N1.out, NumA_no (by decide)]; rfl, B1.out⟩
end Go.Proofs.YtkmmncebekcegaaGreatDoor
