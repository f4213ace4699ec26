/-
  What is proved here: what event.dayOf answers, and what event.ofStart answers of an event that repeats (contracts over the translation).
-/
import Derived.Test.YtdiijpjfkgnjkadGreatDoorBW
import Derived.Test.YtdiijpjfkgnjkadGreatDoorEvAll
import Derived.Deep.RegionHeld3
import Derived.Deep.Cut
namespace Go.Proofs.YtdiijpjfkgnjkadGreatDoor
open Go.RowKit Cal Txt

/-- The day of a time; of what is none it is 0. -/
def dyo (t : Int) : Int := if ist t = true then t / 1440 + 1 else 0
theorem dayOf_any (t : Int) (w : World) :
    Calls Tryz.prog 34 #[.int .i64 t] w fun e w' => e = .returned (.int .i64 (dyo t)) ∧ w' = w := by
  by_cases h : 1 ≤ t ∧ t ≤ 157785119
  · have N : Hid (dyo t = t / 1440 + 1) := Lib.hid (if_pos (ist_yes h.1 h.2))
    go_enter Tryz.func34, Tryz.ntmps34
    go_wp2_with (go_at_call 59; refine (split_yes _ _ h.1 h.2).mono ?_; rintro e w' ⟨rfl, rfl⟩)
    go_ret
    exact ⟨ret_int N.out.symm, rfl⟩
  · have N : Hid (dyo t = 0) := Lib.hid (if_neg (by rw [ist_no h]; decide))
    go_enter Tryz.func34, Tryz.ntmps34
    go_wp2_with (go_at_call 59; refine (split_no _ _ h).mono ?_; rintro e w' ⟨rfl, rfl⟩)
    go_ret
    exact ⟨ret_int N.out.symm, rfl⟩
theorem own_set {w : World} {n0 g cap n : Nat} {xs : List Value} (h : w.ownsRow n0 3 1 (.slice (some ⟨g, 0, none⟩) n cap) n xs) (i : Nat) (x : Value) :
    (w.setCell ⟨g, i, none⟩ x).ownsRow n0 3 1 (.slice (some ⟨g, 0, none⟩) n cap) n (xs.set i x) := by
  obtain ⟨h1, h2⟩ := h
  refine ⟨by rw [List.length_set]; exact h1, ?_⟩
  rcases h2 with ⟨q, _⟩ | ⟨g', cap', cur, q, hb, hg, hc, hm, hs, ht⟩
  · cases q
  · obtain ⟨rfl, rfl⟩ : g = g' ∧ cap = cap' := by simpa using q
    refine Or.inr ⟨g, cap, cur.setIfInBounds i x, rfl, hb, ?_, hc, hm, by simpa using hs, ?_⟩
    · rw [Sort.setCell_eq]
      simp only [Sort.mapBlock, Array.getElem?_modify, if_true, hg]
      rfl
    · rw [Array.toList_setIfInBounds, List.take_set, ht]
/-- The time of a day. -/
def tmd (st n : Int) : Int := st + (n - dyo st) * 1440
/-- How far the list has been turned. -/
def trn (st : Int) (k : Nat) (l : List Int) : List Int := (l.take k).map (tmd st) ++ l.drop k
theorem trn_zero (st : Int) (l : List Int) : trn st 0 l = l := by simp [trn]
theorem trn_end (st : Int) (l : List Int) : trn st l.length l = l.map (tmd st) := by simp [trn]
theorem trn_len (st : Int) (k : Nat) (l : List Int) (h : k ≤ l.length) : (trn st k l).length = l.length := by simp [trn]; omega
theorem trn_at (st : Int) (k : Nat) (l : List Int) (h : k < l.length) : (trn st k l).getD k 0 = l.getD k 0 := by
  unfold trn
  rw [List.getD_eq_getElem?_getD, List.getElem?_append_right (by simp; omega), List.getElem?_drop, List.getD_eq_getElem?_getD]
  congr 2
  simp; omega
theorem trn_set (st : Int) (k : Nat) (l : List Int) (h : k < l.length) : nums (trn st (k + 1) l) = (nums (trn st k l)).set k (.int .i64 (tmd st (l.getD k 0))) := by
  unfold nums trn
  rw [← List.map_set]
  congr 1
  rw [List.take_succ_eq_append_getElem h, List.map_append, List.set_append_right _ _ (by simp; omega), List.getD_eq_getElem?_getD, List.getElem?_eq_getElem h, List.drop_eq_getElem_cons h]
  simp [Nat.min_eq_left (Nat.le_of_lt h)]
  rw [List.drop_eq_getElem_cons h, List.set_cons_zero]
theorem dyo_in (t : Int) : 0 ≤ dyo t ∧ dyo t ≤ 109573 := by
  unfold dyo ist
  split
  · rename_i h
    have := of_decide_eq_true h
    omega
  · omega
theorem dyo_ok {t : Int} (h : ist t = true) : dyo t = t / 1440 + 1 ∧ 1 ≤ dyo t ∧ dyo t ≤ 109573 := by
  have e : dyo t = t / 1440 + 1 := if_pos h
  have := of_decide_eq_true h
  rw [e]
  exact ⟨rfl, by omega, by omega⟩
theorem sf_ev {r : Rl} {t : Int} (h0 : rf r = 0) (h : ist t = true) : sf r (dyo t) = 0 := by
  unfold sf
  rw [if_pos h0, if_pos (dyo_ok h).2]
/-- The days that are asked for. -/
def dyL (e : Evt) (fr t : Int) : List Int := btL e.rule (dyo e.start) (dyo fr) (dyo t)
theorem dyL_in {e : Evt} {fr t x : Int} (h0 : rf e.rule = 0) (h : ist e.start = true) (hx : x ∈ dyL e fr t) : 1 ≤ x ∧ x ≤ 109573 := by
  unfold dyL at hx
  rw [btL_eq (sf_ev h0 h)] at hx
  have := DAYS_in (sf_ev h0 h) (List.mem_filter.1 hx).1
  have := (dyo_ok h).2
  omega
set_option maxRecDepth 100000 in
set_option maxHeartbeats 4000000 in
theorem ofStart_rep (e : Evt) (s : Evs) (fr t : Int) (w : World) (hv : EvB w e s) (hT : Tab w) (hr : e.rep = true) (h0 : rf e.rule = 0) (hs : ist e.start = true) :
    Calls Tryz.prog 54 #[.agg (ecells e s), .int .i64 fr, .int .i64 t] w (OfA w.heap.size w ((dyL e fr t).map (tmd e.start))) := by
  obtain ⟨RES, hRES⟩ : ∃ RES, RES = (dyL e fr t).map (tmd e.start) := ⟨_, rfl⟩
  rw [← hRES]
  have HRES := Lib.hid hRES
  clear hRES
  have B0 := (Below.refl w.heap.size w).alloc (Nat.le_refl _) (.cells (ecells e s) 29)
  have R0 := EBox.new w e s 29
  have HI := Lib.hid (fun x (q : x ∈ dyL e fr t) => dyL_in h0 hs q)
  have HL : Hid ((dyL e fr t).length ≤ 200000) := Lib.hid (btL_len (sf_ev h0 hs) _ _)
  have KA := Lib.hid (fun X (q : Below w.heap.size w X) => seqAll_any e.rule (rval e s) (dyo e.start) (dyo fr) (dyo t) X ((hv.on q).rule) (hT.below q) (sf_ev h0 hs) (by have := (dyo_in fr).2; omega))
  have ET : Hid (∀ n, tmd e.start n = e.start + (n - dyo e.start) * 1440) := Lib.hid (fun _ => rfl)
  have hst := of_decide_eq_true hs
  have hdy := (dyo_ok hs).2
  have HB0 := Lib.hid B0
  have HR0 := Lib.hid R0
  clear hv hT h0 hs B0 R0
  have sz0 : (w.alloc (.cells (ecells e s) 29)).heap.size = w.heap.size + 1 := World.size_alloc _ _
  have ca4 := HR0.out.1.2.2.2.2
  have ca2 := HR0.out.1.2.2.1
  rw [hr] at ca4
  obtain ⟨W0, hW⟩ : ∃ W0, W0 = w.alloc (.cells (ecells e s) 29) := ⟨_, rfl⟩
  rw [← hW] at HB0 HR0 sz0 ca4 ca2
  have HW := Lib.hid hW
  clear hW
  go_enter Tryz.func54, Tryz.ntmps54
  go_upto_region 1 with fail
  rw [← HW.out]
  clear HW
  go_wp2_with (go_at_call 34; refine (dayOf_any _ _).mono ?_; rintro x w' ⟨rfl, hw⟩; replace hw := hw.symm; subst hw)
  have HS : Hid (∀ X, Below W0.heap.size W0 X → X.cell? ⟨w.heap.size, 5, none⟩ = some (.int .i64 e.rule.freq) ∧ X.cell? ⟨w.heap.size, 6, none⟩ = some (.int .i64 e.rule.every) ∧ X.cell? ⟨w.heap.size, 7, none⟩ = some (.int .i64 e.rule.count) ∧ X.cell? ⟨w.heap.size, 8, none⟩ = some (.int .i64 e.rule.till) ∧ X.cell? ⟨w.heap.size, 9, none⟩ = some s.vm ∧ X.cell? ⟨w.heap.size, 10, none⟩ = some s.vd ∧ X.cell? ⟨w.heap.size, 11, none⟩ = some s.vw ∧ X.cell? ⟨w.heap.size, 12, none⟩ = some s.vp) := Lib.hid (fun X q => (HR0.out.on q).2.1)
  have KB := Lib.hid (fun X (q : Below W0.heap.size W0 X) => KA.out X (HB0.out.trans (q.mono HB0.out.size)))
  clear KA ca4
  go_region_held3 (fun X => X.cell? ⟨w.heap.size, 5, none⟩ = some (.int .i64 e.rule.freq) ∧ X.cell? ⟨w.heap.size, 6, none⟩ = some (.int .i64 e.rule.every) ∧ X.cell? ⟨w.heap.size, 7, none⟩ = some (.int .i64 e.rule.count) ∧ X.cell? ⟨w.heap.size, 8, none⟩ = some (.int .i64 e.rule.till) ∧ X.cell? ⟨w.heap.size, 9, none⟩ = some s.vm ∧ X.cell? ⟨w.heap.size, 10, none⟩ = some s.vd ∧ X.cell? ⟨w.heap.size, 11, none⟩ = some s.vw ∧ X.cell? ⟨w.heap.size, 12, none⟩ = some s.vp)
    (first | exact HS.out _ (Below.refl _ _).drew | exact HS.out _ (Below.trans (Below.drew (Below.refl _ W0)) hb3)) (first
    | (go_at_call 34; refine (dayOf_any _ _).mono ?_; rintro x w2 ⟨rfl, rfl⟩)
    | (go_at_call 77; refine (KB.out _ (Below.refl _ W0).drew).mono ?_; rintro x w3 ⟨u, rfl, ho3, hb3⟩))
  have h4 : Below W0.heap.size W0 w3 := Below.trans (Below.drew (Below.refl _ W0)) hb3
  have B3 := Lib.hid (HB0.out.trans (h4.mono HB0.out.size))
  have R3 := Lib.hid (HR0.out.on h4)
  have O3 : Hid (w3.ownsRow (w.heap.size + 1) 3 1 u (dyL e fr t).length (nums (dyL e fr t))) := Lib.hid (by rw [← sz0]; exact ho3)
  clear ho3 hb3 h4 HS KB HB0 HR0 ca2 sz0
  generalize dyL e fr t = ds at O3 HI HL HRES
  rcases own_hol O3.out with ⟨eu, hnil⟩ | ⟨g, cap, eu, hg, hcap, hmax, _⟩
  · subst eu
    have HN := Lib.hid hnil
    clear O3 hnil HI HL
    go_wp2_with fail
    go_loop [38] (fun i => i = .int .i64 0) (fun _ => 0)
    case atStart => rfl
    case round =>
      subst hrel
      go_wp2
      go_ret2
      exact ⟨.slice none 0 0, rfl, by rw [HRES.out, HN.out]; exact World.ownsRow_nil _ _ _ _, B3.out⟩
  · subst eu
    have dl : ds.length ≤ 200000 := HL.out
    have HG := Lib.hid hg
    obtain ⟨st, hst'⟩ : ∃ st, st = e.start := ⟨_, rfl⟩
    obtain ⟨f0, hf0⟩ : ∃ f0, f0 = dyo e.start := ⟨_, rfl⟩
    have c2 := Lib.hid (fun X (q : Below (w.heap.size + 1) w3 X) => (q.cell (p := ⟨w.heap.size, 2, none⟩) (by show w.heap.size < _; omega)).trans R3.out.1.2.2.1)
    rw [← hf0] at hdy ET
    rw [← hst'] at hst ET c2 HRES
    rw [← hf0, ← hst']
    have HST := Lib.hid hst'
    have sw := R3.out.lt
    clear hst' hf0 hg HL R3 hcap hmax hr
    go_wp2_with fail
    go_loopw [38] (fun i wr => ∃ k : Nat, k ≤ ds.length ∧ i = .int .i64 k ∧ wr.ownsRow (w.heap.size + 1) 3 1 (.slice (some ⟨g, 0, none⟩) ds.length cap) ds.length (nums (trn st k ds)) ∧ Below (w.heap.size + 1) w3 wr) (fun i _ => ds.length - (intOf i).toNat)
    case atStart => exact ⟨0, Nat.zero_le _, rfl, by rw [trn_zero]; exact O3.out, Below.refl _ _⟩
    case round =>
      obtain ⟨k, hk, rfl, hO, hB⟩ := hrel
      have HO := Lib.hid hO
      have HB := Lib.hid hB
      have c2' := c2.out _ hB
      clear hO hB O3
      by_cases hlt : k < ds.length
      · have hz : (trn st k ds).length = ds.length := trn_len st k ds hk
        have ck : wr.cell? ⟨g, k, none⟩ = some (.int .i64 (ds.getD k 0)) ∧ wr.frozen? ⟨g, k, none⟩ = false := by
          have hO2 := HO.out
          rw [← hz] at hO2
          rcases own_hol hO2 with ⟨q, _⟩ | ⟨g', cap', q, _, _, _, hh⟩
          · cases q
          · obtain ⟨rfl, _⟩ : g = g' ∧ cap = cap' := by simpa using q
            have := hh k (by omega)
            rwa [trn_at st k ds hlt, Nat.zero_add] at this
        obtain ⟨ck, fk⟩ := ck
        have hin := HI.out (ds.getD k 0) (by rw [List.getD_eq_getElem?_getD, List.getElem?_eq_getElem hlt]; exact List.getElem_mem hlt)
        have NS := Lib.hid (own_set HO.out k (.int .i64 (tmd st (ds.getD k 0))))
        rw [← trn_set st k ds hlt, ET.out] at NS
        generalize ds.getD k 0 = x at ck hin NS
        have NB := Lib.hid (HB.out.trans ((Below.refl (w.heap.size + 1) wr).setCell (p := ⟨g, k, none⟩) HG.out (.int .i64 (st + (x - f0) * 1440))))
        obtain ⟨x1, x2⟩ := hin
        obtain ⟨s1, s2⟩ := hst
        obtain ⟨d1, d2⟩ := hdy
        clear hz HO HB
        go_wp2
        go_roundw
        case rel => exact ⟨k + 1, by omega, by go_num, NS.out, NB.out⟩
        case measure => simp [intOf]; omega
      · obtain rfl : k = ds.length := by omega
        have ZZ := Lib.hid (show OfA w.heap.size w RES (.returned (.tuple #[.slice (some ⟨g, 0, none⟩) ds.length cap, .nilIface])) wr from ⟨_, rfl, by
          have := HO.out
          rw [trn_end] at this
          rw [HRES.out, List.length_map]
          exact ⟨this.1, this.2.imp id (fun ⟨g, cap, cur, h1, h2, h3⟩ => ⟨g, cap, cur, h1, by omega, h3⟩)⟩, B3.out.trans (HB.out.mono (by omega))⟩)
        clear HO HB
        go_wp2
        go_ret2
        exact ZZ.out
end Go.Proofs.YtdiijpjfkgnjkadGreatDoor
