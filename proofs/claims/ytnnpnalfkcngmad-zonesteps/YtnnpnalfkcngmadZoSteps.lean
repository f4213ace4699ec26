/-
  What is proved here: the walk of chimelaw4.ZoneSteps: it returns true for every zone, time and number, and turns nothing that was there.
-/
import Derived.Test.YtnnpnalfkcngmadZoChk
import Derived.Test.YtnnpnalfkcngmadOwnN
import Derived.Deep.RegionLaw
namespace Go.Proofs.Ytnnpnalfkcngmad
open Go.RowKit Cal Txt Zo

theorem info_shift : (Try.prog.info? 30).map (fun i => (i.zero, i.size, i.bytes)) = some (some (.agg #[.int .i64 0, .int .i64 0]), 2, 16) := by kernel_rfl
/-- The first shifts, so much more ahead. -/
def mor (more : Int) (l : List (Int × Int)) (k : Nat) : List (Int × Int) := (l.take k).map fun x => (x.1, IntKind.i64.wrap (x.2 + more))
theorem mor_next (more : Int) (l : List (Int × Int)) (k : Nat) (h : k < l.length) : mor more l (k + 1) = mor more l k ++ [((l.getD k (0, 0)).1, IntKind.i64.wrap ((l.getD k (0, 0)).2 + more))] := by
  unfold mor
  rw [List.take_succ_eq_append_getElem h, List.map_append, List.getD_eq_getElem?_getD, List.getElem?_eq_getElem h]
  rfl
theorem none_pairs (w : World) : Nths w (.slice none 0 0) [] := ⟨none, 0, rfl, Or.inl rfl⟩
theorem beg_map (t : Int) (g : Int × Int → Int) : ∀ l : List (Int × Int), beg t (l.map fun x => (x.1, g x)) = beg t l
  | [] => rfl
  | x :: l => by
    show (if x.1 ≤ t then beg t (l.map fun x => (x.1, g x)) + 1 else 0) = (if x.1 ≤ t then beg t l + 1 else 0)
    rw [beg_map t g l]
theorem wrap_in {x : Int} (h1 : -9223372036854775808 ≤ x) (h2 : x ≤ 9223372036854775807) : wrap64 x = x := by
  unfold wrap64
  omega
theorem wrap_in' {x : Int} (h1 : -9223372036854775808 ≤ x) (h2 : x ≤ 9223372036854775807) : IntKind.i64.wrap x = x := by
  rw [show IntKind.i64.wrap x = wrap64 x from IntWalk.i64_left x]
  exact wrap_in h1 h2
theorem mor_same {a more t : Int} {l : List (Int × Int)} {k : Nat} (m1 : ¬ more < -900) (m2 : ¬ 900 < more) (hz : zf a l = 0) (hk : k = l.length) :
    t + zah (wrap64 (a + more)) (mor more l k) (beg t (mor more l k)) = t + zah a l (beg t l) + more := by
  subst hk
  obtain ⟨_, h2, h3⟩ := zf_open hz
  have e : mor more l l.length = l.map fun x => (x.1, IntKind.i64.wrap (x.2 + more)) := by unfold mor; rw [List.take_length]
  rw [e, beg_map t (fun x => IntKind.i64.wrap (x.2 + more)) l]
  have hb := beg_le t l
  generalize beg t l = j at hb
  unfold zah
  split
  · rw [wrap_in (by omega) (by omega)]; omega
  · have hj : j - 1 < l.length := by omega
    have := (sf_open (h3 (j - 1) hj)).2.1
    rw [List.getD_eq_getElem?_getD, List.getElem?_eq_getElem hj] at this
    rw [List.getD_eq_getElem?_getD, List.getD_eq_getElem?_getD, List.getElem?_map, List.getElem?_eq_getElem hj]
    simp only [Option.map_some, Option.getD_some] at this ⊢
    rw [wrap_in' (by omega) (by omega)]
    omega
set_option maxRecDepth 100000 in
set_option maxHeartbeats 4000000 in
theorem zsteps (a : Int) (l : List (Int × Int)) (v : Value) (t more : Int) (w : World) (hv : ZoneIn w v a l) :
    Calls Try.prog 3 #[v, .int .i64 t, .int .i64 more] w fun e w' => e = .returned (.bool true) ∧ Below w.heap.size w w' := by
  obtain ⟨i0, hi, hz0, hz1, hz2⟩ := info_parts info_shift
  have HV := Lib.hid (fun W (q : Below w.heap.size w W) => hv.on q)
  obtain ⟨sa, sc, rfl⟩ := hv.form
  have B0 := (Below.refl w.heap.size w).alloc (Nat.le_refl _) (.cells #[.int .i64 a, .slice sa l.length sc] 24)
  have HB := Lib.hid B0
  have hz := Lib.hid (ZBox.new w a (.slice sa l.length sc) 24)
  clear hv B0
  go_enter Try.func3, Try.ntmps3
  go_wp2_with fail
  generalize w.alloc (.cells #[.int .i64 a, .slice sa l.length sc] 24) = W0 at HB hz ⊢
  refine (zlocal_any 60 [] _ 1000 _ ⟨_, rfl, none_pairs _⟩).mono ?_
  rintro e w1 ⟨rfl, hb⟩
  rw [show NumA (zl 60 [] 1000) (1000 + zah 60 [] (beg 1000 [])) = .returned (.tuple #[.int .i64 1060, .nilIface]) from rfl]
  have B1 := HB.out.trans (hb.mono HB.out.size)
  have z1 := hz.out.on hb
  have zlt := z1.lt
  have HZ := Lib.hid z1
  clear hb HB hz
  by_cases m1 : more < -900
  · clear z1
    go_wp2
    go_ret
    exact ⟨rfl, B1⟩
  by_cases m2 : 900 < more
  · clear z1
    go_wp2
    go_ret
    exact ⟨rfl, B1⟩
  obtain ⟨q1, q2⟩ := z1
  have O1 := Lib.hid (Obj2.new w1 24 (.int .i64 (wrap64 (a + more))) (.slice none 0 0))
  have A1 : Below w1.heap.size w1 (w1.alloc (.cells #[.int .i64 (wrap64 (a + more)), .slice none 0 0] 24)) := (Below.refl _ _).alloc (Nat.le_refl _) _
  have HA := Lib.hid A1
  have ES : Hid ((w1.alloc (.cells #[.int .i64 (wrap64 (a + more)), .slice none 0 0] 24)).heap.size = w1.heap.size + 1) := Lib.hid (by simp)
  clear A1
  go_wp2_with fail
  clear q1 q2
  generalize w1.alloc (.cells #[.int .i64 (wrap64 (a + more)), .slice none 0 0] 24) = W1 at O1 HA ES ⊢
  have B1' := Lib.hid B1
  clear B1
  go_loopw [10] (fun i wr => ∃ (k : Nat) (vs : Value), k ≤ l.length ∧ k ≤ 30 ∧ i = .int .i64 k ∧ Obj2 wr w1.heap.size 24 (.int .i64 (wrap64 (a + more))) vs ∧ wr.ownsRow (w1.heap.size + 1) 30 2 vs k (prc (mor more l k)) ∧ Below w1.heap.size w1 wr) (fun i _ => 30 - (intOf i).toNat)
  case atStart => exact ⟨0, .slice none 0 0, Nat.zero_le _, Nat.zero_le _, rfl, O1.out, World.ownsRow_nil _ _ _ _, HA.out⟩
  case round =>
    obtain ⟨k, vs, hk, hk30, rfl, ho, hown, hB⟩ := hrel
    have HO := Lib.hid hown
    have HOB := Lib.hid ho
    have zb := HZ.out.on hB
    have zl' := zb.lt
    obtain ⟨z1, z2⟩ := zb
    obtain ⟨y1, y2, y3, y4⟩ := ho.cells
    have yl := ho.lt
    clear hown ho
    by_cases hgo : k < l.length ∧ k < 30
    · obtain ⟨hlt, h30⟩ := hgo
      obtain ⟨_, e', sa', sc', rfl, hc⟩ := HV.out _ (Below.refl _ _)
      obtain ⟨rfl, rfl⟩ : sa = sa' ∧ sc = sc' := by simpa using e'
      rcases hc with hc | ⟨b, off, rfl, hc⟩
      · rw [hc] at hlt; simp at hlt
      obtain ⟨k1, k2⟩ := hc k hlt
      obtain ⟨x, hx⟩ : ∃ x, x = (l.getD k (0, 0)).1 := ⟨_, rfl⟩
      obtain ⟨y, hy⟩ : ∃ y, y = (l.getD k (0, 0)).2 := ⟨_, rfl⟩
      rw [← hx] at k1
      rw [← hy] at k2
      have bl0 := zcell_in k1
      have N1 : Hid (prc (mor more l (k + 1)) = prc (mor more l k) ++ [.int .i64 x, .int .i64 (IntKind.i64.wrap (y + more))]) := Lib.hid (by rw [mor_next more l k hlt, prs_snoc, hx, hy])
      have Bw := B1'.out.trans (hB.mono B1'.out.size)
      have bl1 : b < w1.heap.size := by have := B1'.out.size; omega
      have c1 := (B1'.out.cell (p := ⟨b, off + k * 2, none⟩) bl0).trans k1
      have c2 := (B1'.out.cell (p := ⟨b, off + k * 2 + 1, none⟩) bl0).trans k2
      have q2 := HZ.out.2
      have d1 := (hB.cell (p := ⟨b, off + k * 2, none⟩) bl1).trans c1
      have d2 := (hB.cell (p := ⟨b, off + k * 2 + 1, none⟩) bl1).trans c2
      have bl2 : b < wr.heap.size := zcell_in d1
      have HBB := Lib.hid hB
      have ne1 : ¬ w.heap.size = w1.heap.size := by omega
      have ne2 : ¬ b = w1.heap.size := by omega
      have szr : w1.heap.size + 1 ≤ wr.heap.size := by omega
      clear hx hy hc e' k1 k2 Bw hB
      go_wp2_with fail
      go_region_law
        (first | (refine step_append_own rfl _ _ 22 rfl (w1.heap.size + 1) 30 i0 (.agg #[.int .i64 0, .int .i64 0]) 2 16 Try.underlying22 hi hz0 hz1 hz2 rfl (by decide) vs k (prc (mor more l k)) rfl (ow_below HO.out (((Below.refl _ wr).alloc (Nat.le_refl _) (.cells #[.int .i64 x, .int .i64 (IntKind.i64.wrap (y + more))] 30)).drew)) ⟨wr.heap.size, 0, none⟩ 1 1 [.int .i64 x, .int .i64 (IntKind.i64.wrap (y + more))] rfl rfl (fun j q h => (cell_two_new wr _ _ 30 j q h :)) (by intro q hq; simp at hq; rcases hq with rfl | rfl <;> rfl) (by unfold maxLen; omega) (by omega) (by simp; omega) ?_
                  intro v' w3 R1 R2
                  obtain ⟨g', cap', hv'⟩ := own_shape R1
                  subst hv'
                  have FS := field_step HBB.out rfl HO.out (((Below.refl _ wr).alloc (Nat.le_refl _) (.cells #[.int .i64 x, .int .i64 (IntKind.i64.wrap (y + more))] 30)).drew) HOB.out R1 R2
                  have HFS := Lib.hid FS
                  obtain ⟨u1, u2, _, _, u8⟩ := FS
                  obtain ⟨u3, u4, u5, u6⟩ := u1.cells
                  have SS : w3.cell? ⟨w.heap.size, 1, none⟩ = some (.slice (some ⟨b, off, none⟩) l.length sc) ∧ w3.cell? ⟨b, off + k * 2, none⟩ = some (.int .i64 x) ∧ w3.cell? ⟨b, off + k * 2 + 1, none⟩ = some (.int .i64 y) := ⟨(u2 _ _ zlt).trans q2, (u2 _ _ bl1).trans c1, (u2 _ _ bl1).trans c2⟩
                  have u7 := u1.lt
                  have SS2 : (w3.setCell ⟨w1.heap.size, 1, none⟩ (.slice (some ⟨g', 0, none⟩) (k + 1) cap')).cell? ⟨w.heap.size, 1, none⟩ = some (.slice (some ⟨b, off, none⟩) l.length sc) ∧ (w3.setCell ⟨w1.heap.size, 1, none⟩ (.slice (some ⟨g', 0, none⟩) (k + 1) cap')).cell? ⟨b, off + k * 2, none⟩ = some (.int .i64 x) ∧ (w3.setCell ⟨w1.heap.size, 1, none⟩ (.slice (some ⟨g', 0, none⟩) (k + 1) cap')).cell? ⟨b, off + k * 2 + 1, none⟩ = some (.int .i64 y) := ⟨(u8.cell (p := ⟨w.heap.size, 1, none⟩) zlt).trans q2, (u8.cell (p := ⟨b, off + k * 2, none⟩) bl1).trans c1, (u8.cell (p := ⟨b, off + k * 2 + 1, none⟩) bl1).trans c2⟩
                  clear R1 R2 u1 u2 u8))
      all_goals
        obtain ⟨_, _, v3, v4, v5⟩ := HFS.out
        have V3 := Lib.hid v3
        have V4 := Lib.hid v4
        have V5 := Lib.hid v5
        clear v3 v4 v5 SS SS2
        go_wp2
        go_roundw
        case rel => exact ⟨k + 1, _, by omega, by omega, by go_num, V3.out, by rw [N1.out]; exact V4.out, V5.out⟩
        case measure => simp [intOf]; omega
    · have NY := Lib.hid (own_prs HO.out)
      have LY : Hid ((mor more l k).length = k) := Lib.hid (by unfold mor; rw [List.length_map, List.length_take]; omega)
      have Bw := B1'.out.trans (hB.mono B1'.out.size)
      have KL := Lib.hid (zlocal_any a l _ t wr (HV.out _ Bw))
      have HBw := Lib.hid Bw
      have ES2 : Hid (∀ W, Below wr.heap.size wr W → ZoneIn W (.agg #[.int .i64 (wrap64 (a + more)), vs]) (wrap64 (a + more)) (mor more l k)) := Lib.hid (fun W q => ⟨vs, rfl, NY.out.on q⟩)
      have CB := Lib.hid (fun (q : zf a l = 0) => mor_same (more := more) (l := l) (t := t) (k := k) (by omega) (by omega) q (by have := (zf_open q).1; omega))
      clear Bw
      obtain ⟨sv, sw, rfl⟩ : ∃ sv sw, vs = .slice sv k sw := by
        obtain ⟨sv, sw, e, _⟩ := NY.out
        exact ⟨sv, sw, by rw [e, LY.out]⟩
      rcases (by omega : ¬ k < l.length ∨ (k < l.length ∧ ¬ k < 30)) with h | ⟨h, h'⟩
      all_goals
        go_wp2_with fail
        refine KL.out.mono ?_
        rintro e w2 ⟨rfl, hb⟩
        have KY := Lib.hid (zlocal_any (wrap64 (a + more)) (mor more l k) _ t w2 (ES2.out _ hb))
        obtain ⟨y1', y2', _, _⟩ := (HOB.out.on hb).cells
        have yl' := (HOB.out.on hb).lt
        have B2 := Lib.hid (HBw.out.trans (hb.mono HBw.out.size))
        clear hb KL z1 z2 y1 y2 y3 y4
        by_cases f1 : zl a l t = 0
        · rw [NumA_yes f1]
          obtain ⟨g1, g2, g3⟩ := zl_open f1
          have EQ := CB.out g1
          have ZA := zah_in g1 (beg_le t l)
          by_cases f2 : zl (wrap64 (a + more)) (mor more l k) t = 0
          · rw [NumA_yes f2, EQ] at KY
            clear f1 f2 EQ CB
            generalize zah a l (beg t l) = Z at KY g3 ZA ⊢
            go_wp2_with fail
            refine KY.out.mono ?_
            rintro e w3 ⟨rfl, hb⟩
            have B3 := B2.out.trans (hb.mono B2.out.size)
            go_wp2
            go_ret
            exact ⟨rfl, B3⟩
          · rw [NumA_no f2] at KY
            clear f1 f2 EQ CB
            generalize zah a l (beg t l) = Z at g3 ZA ⊢
            go_wp2_with fail
            refine KY.out.mono ?_
            rintro e w3 ⟨rfl, hb⟩
            have B3 := B2.out.trans (hb.mono B2.out.size)
            go_wp2
            go_ret
            exact ⟨rfl, B3⟩
        · rw [NumA_no f1]
          clear CB
          by_cases f2 : zl (wrap64 (a + more)) (mor more l k) t = 0
          · rw [NumA_yes f2] at KY
            clear f1 f2
            go_wp2_with fail
            refine KY.out.mono ?_
            rintro e w3 ⟨rfl, hb⟩
            have B3 := B2.out.trans (hb.mono B2.out.size)
            go_wp2
            go_ret
            exact ⟨rfl, B3⟩
          · rw [NumA_no f2] at KY
            clear f1 f2
            go_wp2_with fail
            refine KY.out.mono ?_
            rintro e w3 ⟨rfl, hb⟩
            have B3 := B2.out.trans (hb.mono B2.out.size)
            go_wp2
            go_ret
            exact ⟨rfl, B3⟩
end Go.Proofs.Ytnnpnalfkcngmad
