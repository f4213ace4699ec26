/-
  What is proved here: what event.movedInto and event.Real answer of an event that is right (contracts over the translation).
-/
import Derived.Test.YtkmmncebekcegaaGreatDoorDB
import Derived.Deep.RegionHeld3
namespace Go.Proofs.YtkmmncebekcegaaGreatDoor
open Go.RowKit Cal Txt

theorem isnt_any (g B : Nat) (q : Int → Bool) (fB : Nat) (c : Int × Int) (w : World) (hc : w.cell? ⟨fB, 0, none⟩ = some (.func (.func g) #[] #[.pointer (some ⟨B, 0, none⟩)])) (eg : ∀ args W, (callFunc g args).run Tryz.prog W = .ok (.enter g args) W)
    (hK : ∀ W, Below w.heap.size w W → Calls Tryz.prog g #[.int .i64 c.1, .pointer (some ⟨B, 0, none⟩)] W fun z W' => z = .returned (.bool (q c.1)) ∧ Below W.heap.size W W') :
    Calls Tryz.prog 121 #[.agg #[.int .i64 c.1, .int .i64 c.2], .pointer (some ⟨fB, 0, none⟩)] w fun e w' => e = .returned (.bool (!q c.1)) ∧ Below w.heap.size w w' := by
  have B0 := (Below.refl w.heap.size w).alloc (Nat.le_refl _) (.cells #[.int .i64 c.1, .int .i64 c.2] 74)
  have HB := Lib.hid B0
  have c1 := (B0.cell (p := ⟨fB, 0, none⟩) (ecell_in hc)).trans hc
  have cl := ecell_in hc
  have K := Lib.hid (hK _ B0)
  clear B0 hc hK
  generalize q c.1 = R at K ⊢
  go_enter Tryz.func121, Tryz.ntmps121
  go_wp2_with fail
  refine K.out.mono ?_
  rintro y w1 ⟨rfl, hb⟩
  have B1 := Lib.hid (HB.out.trans (hb.mono HB.out.size))
  clear hb K HB c1
  go_wp2
  go_ret
  exact ⟨rfl, B1.out⟩
theorem del2_none (a : Option Addr) (cap : Nat) (c1 c2 : Value) (w : World) :
    Calls Tryz.prog 118 #[.slice a 0 cap, .func (.func 117) #[] #[c1, c2]] w fun e w' => e = .returned (.slice a 0 cap) ∧ w' = w := by
  have KI : Calls Tryz.prog 157 #[.slice a 0 cap, .func (.func 117) #[] #[c1, c2]] w fun e w' => e = .returned (.int .i64 (-1)) ∧ w' = w := by
    go_enter Tryz.func157, Tryz.ntmps157
    go_wp2
    go_loop [8] (fun i => i = .int .i64 0) (fun _ => 0)
    case atStart => rfl
    case round =>
      subst hrel
      go_wp2
      go_ret
      exact ⟨rfl, rfl⟩
  have HK := Lib.hid KI
  clear KI
  go_enter Tryz.func118, Tryz.ntmps118
  go_wp2_with fail
  refine HK.out.mono ?_
  rintro e w1 ⟨rfl, hw⟩
  replace hw := hw.symm
  subst hw
  go_wp2
  go_ret
  exact ⟨rfl, rfl⟩
/-- Those that are moved into a stretch, whoever asks. -/
def inS (fr t : Int) (c : List (Int × Int)) : List (Int × Int) := c.filter (fun x => !(!decide (fr ≤ x.2 ∧ x.2 ≤ t)))
theorem inS_eq (fr t : Int) (c : List (Int × Int)) : inS fr t c = c.filter (fun x => decide (fr ≤ x.2 ∧ x.2 ≤ t)) := List.filter_congr (fun _ _ => Bool.not_not _)
theorem getD_mem {l : List (Int × Int)} {k : Nat} (h : k < l.length) : l.getD k (0, 0) ∈ l := by rw [List.getD_eq_getElem?_getD, List.getElem?_eq_getElem h]; exact List.getElem_mem h
theorem inS_ends {e : Evt} {fr t : Int} (h : evF e = 0) (h0 : 0 < (inS fr t e.chg).length) : (ist ((inS fr t e.chg).getD 0 (0, 0)).1 = true ∧ ist ((inS fr t e.chg).getD ((inS fr t e.chg).length - 1) (0, 0)).1 = true) ∧ ∀ c ∈ inS fr t e.chg, ist c.1 = true ∧ ((inS fr t e.chg).getD 0 (0, 0)).1 ≤ c.1 ∧ c.1 ≤ ((inS fr t e.chg).getD ((inS fr t e.chg).length - 1) (0, 0)).1 := by
  obtain ⟨h1, h2⟩ := evF_chg h
  have hp : (inS fr t e.chg).Pairwise (fun a b => a.1 < b.1) := (cri_pair h2).filter _
  have tm : ∀ d ∈ inS fr t e.chg, ist d.1 = true := fun d q => by
    have := List.all_eq_true.1 h1 d (List.mem_filter.1 q).1
    unfold chB at this
    rw [Bool.and_eq_true] at this
    exact this.1
  generalize inS fr t e.chg = l at h0 hp tm
  refine ⟨⟨tm _ (getD_mem h0), tm _ (getD_mem (by omega))⟩, fun c hc => ⟨tm c hc, ?_, ?_⟩⟩
  · obtain ⟨j, hj, rfl⟩ := List.getElem_of_mem hc
    rw [List.getD_eq_getElem?_getD, List.getElem?_eq_getElem h0]
    rcases Nat.eq_zero_or_pos j with q | q
    · subst q; exact Int.le_refl _
    · exact Int.le_of_lt (List.pairwise_iff_getElem.1 hp 0 j h0 hj q)
  · obtain ⟨j, hj, rfl⟩ := List.getElem_of_mem hc
    rw [List.getD_eq_getElem?_getD, List.getElem?_eq_getElem (by omega)]
    rcases Nat.lt_or_ge j (l.length - 1) with q | q
    · exact Int.le_of_lt (List.pairwise_iff_getElem.1 hp j (l.length - 1) hj (by omega) q)
    · have : j = l.length - 1 := by omega
      subst this; exact Int.le_refl _
/-- How a question is answered ever after. -/
def Ans (n : Nat) (w : World) (e : Evt) (s : Evs) (g B : Nat) (q : Int → Bool) : Prop := ∀ W, Kp n w W → EvB W e s → Tab W → ∀ y, Calls Tryz.prog g #[.int .i64 y, .pointer (some ⟨B, 0, none⟩)] W fun z W' => z = .returned (.bool (q y)) ∧ Below W.heap.size W W'
theorem Ans.alloc {n : Nat} {w : World} {e : Evt} {s : Evs} {g B : Nat} {q : Int → Bool} (h : Ans n w e s g B q) (o : Obj) : Ans n (w.alloc o) e s g B q := fun W k hv hT y =>
  h W (fun i i1 i2 => (k i i1 (by rw [World.size_alloc]; omega)).trans (((Below.refl w.heap.size w).alloc (Nat.le_refl _) o).block i i2)) hv hT y
theorem Ans.set {n m : Nat} {w : World} {e : Evt} {s : Evs} {g B : Nat} {q : Int → Bool} (h : Ans n w e s g B q) (hm : m < n) (v : Value) : Ans m (w.setCell ⟨m, 0, none⟩ v) e s g B q := fun W k hv hT y =>
  h W (fun i i1 i2 => (k i (by omega) (by simpa using i2)).trans (Below.heap_setCell w ⟨m, 0, none⟩ v i (by show i ≠ m; omega))) hv hT y
theorem fn_old {w2 w3 : World} {v : Value} {ty : TypeId} (hb : Below ((w2.alloc (.cells #[v] ty)).drew).heap.size ((w2.alloc (.cells #[v] ty)).drew) w3) : w3.cell? ⟨w2.heap.size, 0, none⟩ = some v ∧ w3.frozen? ⟨w2.heap.size, 0, none⟩ = false ∧ w2.heap.size < w3.heap.size := by
  obtain ⟨c, f⟩ := bcell hb
  have z := hb.size
  have hs : w2.heap.size < ((w2.alloc (.cells #[v] ty)).drew).heap.size := by show w2.heap.size < (w2.alloc (.cells #[v] ty)).heap.size; rw [World.size_alloc]; omega
  refine ⟨?_, ?_, by omega⟩
  · rw [c _ _ hs]; show (w2.alloc (.cells #[v] ty)).cell? _ = _; simp
  · rw [f _ _ hs]; show (w2.alloc (.cells #[v] ty)).frozen? _ = _; simp
/-- Changes that may be read, and no error. -/
def RowM (w : World) (l : List (Int × Int)) (x : Ending) (w' : World) : Prop := ∃ v, x = .returned (.tuple #[v, .nilIface]) ∧ Nths w' v l ∧ Below w.heap.size w w'
set_option maxRecDepth 100000 in
set_option maxHeartbeats 8000000 in
theorem movedInto_any (e : Evt) (s : Evs) (fr t : Int) (w : World) (hv : EvB w e s) (hT : Tab w) (h : evF e = 0) :
    Calls Tryz.prog 87 #[.agg (ecells e s), .int .i64 fr, .int .i64 t] w (RowM w (mvd e fr t)) := by
  obtain ⟨W0, hW, B0, z0, R0, cf, ct⟩ := three_new w e s fr t
  have HV := Lib.hid (fun W (q : Below w.heap.size w W) => hv.on q)
  have HT := Lib.hid (fun W (q : Below w.heap.size w W) => hT.below q)
  have cl := (evF_lens h).2.2.2.2.1
  have H0 := Lib.hid h
  have HW := Lib.hid hW
  have HB := Lib.hid B0
  have HE := Lib.hid R0
  have KC := Lib.hid (clone_any s.vc e.chg W0 (hv.on B0).2.2.2.2.2.2.1 (by omega))
  have c15 := R0.2.2.2.2.1
  have rl := R0.lt
  have MV : Hid (mvd e fr t = (inS fr t e.chg).filter (fun c => isEb e c.1)) := Lib.hid (by rw [inS_eq]; rfl)
  have IE := Lib.hid (inS_ends (fr := fr) (t := t) h)
  have HCF := Lib.hid (And.intro cf ct)
  clear hv hT h B0 R0 hW cf ct
  generalize mvd e fr t = MM at MV ⊢
  go_enter Tryz.func87, Tryz.ntmps87
  go_upto_region 1 with fail
  rw [← HW.out]
  clear HW
  go_wp2_with fail
  clear c15 rl
  refine KC.out.mono ?_
  rintro y w1 ⟨u, rfl, hb, hu⟩
  have B1 := Lib.hid (HB.out.trans (hb.mono HB.out.size))
  have E1 := Lib.hid (HE.out.on hb)
  have C1 := Lib.hid (And.intro ((hb.cell (p := ⟨w.heap.size + 1, 0, none⟩) (ecell_in HCF.out.1)).trans HCF.out.1) ((hb.cell (p := ⟨w.heap.size + 2, 0, none⟩) (ecell_in HCF.out.2)).trans HCF.out.2))
  clear hb KC HB HE HCF
  rcases hu with ⟨l0, a, c, rfl⟩ | ⟨lpos, g, cap, rfl, hg, hcap, hh⟩
  · have N : Hid (MM = []) := Lib.hid (by rw [MV.out, l0]; rfl)
    clear MV IE
    go_wp2_with (go_at_call 118; refine (del2_none _ _ _ _ _).mono ?_; rintro y w2 ⟨rfl, hw⟩; replace hw := hw.symm; subst hw)
    go_ret2
    exact ⟨_, rfl, by rw [N.out]; exact nil_nth _, B1.out⟩
  have CA : ClA g w1 (.pointer (some ⟨w.heap.size + 1, 0, none⟩)) (.pointer (some ⟨w.heap.size + 2, 0, none⟩)) (fun c => !decide (fr ≤ c.2 ∧ c.2 ≤ t)) := fun c W qa =>
    away_any fr t c (w.heap.size + 1) (w.heap.size + 2) W ((qa.cell (p := ⟨w.heap.size + 1, 0, none⟩) (ecell_in C1.out.1) (by show w.heap.size + 1 ≠ g; omega)).trans C1.out.1) ((qa.cell (p := ⟨w.heap.size + 2, 0, none⟩) (ecell_in C1.out.2) (by show w.heap.size + 2 ≠ g; omega)).trans C1.out.2)
  have KD := Lib.hid (delA _ _ _ e.chg g 0 cap w1 CA hh lpos hcap (by omega))
  have IL : (inS fr t e.chg).length ≤ e.chg.length := List.length_filter_le _ _
  clear CA hh C1
  go_wp2_with fail
  refine KD.out.mono ?_
  rintro y w2 ⟨rfl, hh2, ha2⟩
  have hh3 : Hol2 w2 g 0 (inS fr t e.chg) := hh2
  have B2 := Lib.hid (B1.out.trans (ha2.below (n0 := w.heap.size) (by omega) B1.out.size))
  have E2 := Lib.hid (apt_ebox E1.out ha2 (by omega))
  have HH := Lib.hid hh3
  have eL : (e.chg.filter (fun x => !(fun c : Int × Int => !decide (fr ≤ c.2 ∧ c.2 ≤ t)) x)) = inS fr t e.chg := rfl
  rw [eL]
  generalize inS fr t e.chg = L at HH MV IE IL
  clear KD hh2 hh3 ha2 eL B1 E1
  rcases Nat.eq_zero_or_pos L.length with l0 | lp
  · have N : Hid (MM = []) := Lib.hid (by rw [MV.out, List.eq_nil_of_length_eq_zero l0]; rfl)
    rw [l0]
    clear MV IE HH l0
    go_wp2
    go_ret2
    exact ⟨_, rfl, by rw [N.out]; exact nil_nth _, B2.out⟩
  obtain ⟨⟨t0, t1⟩, te⟩ := IE.out lp
  have TE := Lib.hid te
  obtain ⟨m, hm⟩ : ∃ m, L.length = m + 1 := ⟨L.length - 1, by omega⟩
  have hm1 : L.length - 1 = m := by omega
  rw [hm1] at t1 TE
  have k0 : w2.cell? ⟨g, 0, none⟩ = some (.int .i64 (L.getD 0 (0, 0)).1) := (HH.out 0 lp).1.1
  have k1 : w2.cell? ⟨g, 0 + m * 2, none⟩ = some (.int .i64 (L.getD m (0, 0)).1) := (HH.out m (by omega)).1.1
  rw [Nat.zero_add] at k1
  have gl := ecell_in k0
  generalize (L.getD 0 (0, 0)).1 = A0 at t0 TE k0
  generalize (L.getD m (0, 0)).1 = A1 at t1 TE k1
  have KA := Lib.hid (fun X (q : Below w2.heap.size w2 X) => asker_any e s A0 A1 X (HV.out _ (B2.out.trans (q.mono B2.out.size))) (HT.out _ (B2.out.trans (q.mono B2.out.size))) H0.out t0 t1)
  have HS : Hid (∀ X, Below w2.heap.size w2 X → (X.cell? ⟨w.heap.size, 0, none⟩ = some (.string e.name) ∧ X.cell? ⟨w.heap.size, 1, none⟩ = some (.string e.text) ∧ X.cell? ⟨w.heap.size, 2, none⟩ = some (.int .i64 e.start) ∧ X.cell? ⟨w.heap.size, 3, none⟩ = some (.int .i64 e.len) ∧ X.cell? ⟨w.heap.size, 4, none⟩ = some (.bool e.rep) ∧ X.cell? ⟨w.heap.size, 5, none⟩ = some (.int .i64 e.rule.freq) ∧ X.cell? ⟨w.heap.size, 6, none⟩ = some (.int .i64 e.rule.every) ∧ X.cell? ⟨w.heap.size, 7, none⟩ = some (.int .i64 e.rule.count) ∧ X.cell? ⟨w.heap.size, 8, none⟩ = some (.int .i64 e.rule.till) ∧ X.cell? ⟨w.heap.size, 9, none⟩ = some s.vm ∧ X.cell? ⟨w.heap.size, 10, none⟩ = some s.vd ∧ X.cell? ⟨w.heap.size, 11, none⟩ = some s.vw ∧ X.cell? ⟨w.heap.size, 12, none⟩ = some s.vp ∧ X.cell? ⟨w.heap.size, 13, none⟩ = some s.vo ∧ X.cell? ⟨w.heap.size, 14, none⟩ = some s.vn ∧ X.cell? ⟨w.heap.size, 15, none⟩ = some s.vc ∧ X.cell? ⟨w.heap.size, 16, none⟩ = some s.va) ∧ X.cell? ⟨g, 0, none⟩ = some (.int .i64 A0) ∧ X.cell? ⟨g, m * 2, none⟩ = some (.int .i64 A1)) := Lib.hid (fun X q => by
    obtain ⟨⟨a0, a1, a2, a3, a4⟩, ⟨b0, b1, b2, b3, b4, b5, b6, b7⟩, c0, c1, c2, c3⟩ := E2.out.on q
    exact ⟨⟨a0, a1, a2, a3, a4, b0, b1, b2, b3, b4, b5, b6, b7, c0, c1, c2, c3⟩, (q.cell (p := ⟨g, 0, none⟩) gl).trans k0, (q.cell (p := ⟨g, m * 2, none⟩) gl).trans k1⟩)
  obtain ⟨n, hn⟩ : ∃ n, n = L.length := ⟨_, rfl⟩
  have HM := Lib.hid hm
  have HN := Lib.hid hn
  have HLP := Lib.hid lp
  rw [← hn]
  have nl : n ≤ 1000 := by omega
  have nm : n = m + 1 := by omega
  have lne : ((n : Int) == 0) = false := by simp; omega
  have i1 : (0 : Int) ≤ (m : Int) := by omega
  have i2 : (m : Int) < (n : Int) := by omega
  have i3 : (n : Int) - 1 = (m : Int) := by omega
  have i4 : (0 : Int) < (n : Int) := by omega
  have i5 : 0 < n := by omega
  have i7 : m < n := by omega
  have i8 : IntKind.i64.wrap (m : Int) = (m : Int) := by rw [IntKind.wrap_i64]; omega
  have i9 : wrap64 (m : Int) = (m : Int) := by unfold wrap64; omega
  clear nm hn
  have HMV := Lib.hid MV.out
  clear hm1 hm lp t0 t1 te MV IE k0 k1 gl
  go_wp2_with fail
  go_region_held3 (fun X => (X.cell? ⟨w.heap.size, 0, none⟩ = some (.string e.name) ∧ X.cell? ⟨w.heap.size, 1, none⟩ = some (.string e.text) ∧ X.cell? ⟨w.heap.size, 2, none⟩ = some (.int .i64 e.start) ∧ X.cell? ⟨w.heap.size, 3, none⟩ = some (.int .i64 e.len) ∧ X.cell? ⟨w.heap.size, 4, none⟩ = some (.bool e.rep) ∧ X.cell? ⟨w.heap.size, 5, none⟩ = some (.int .i64 e.rule.freq) ∧ X.cell? ⟨w.heap.size, 6, none⟩ = some (.int .i64 e.rule.every) ∧ X.cell? ⟨w.heap.size, 7, none⟩ = some (.int .i64 e.rule.count) ∧ X.cell? ⟨w.heap.size, 8, none⟩ = some (.int .i64 e.rule.till) ∧ X.cell? ⟨w.heap.size, 9, none⟩ = some s.vm ∧ X.cell? ⟨w.heap.size, 10, none⟩ = some s.vd ∧ X.cell? ⟨w.heap.size, 11, none⟩ = some s.vw ∧ X.cell? ⟨w.heap.size, 12, none⟩ = some s.vp ∧ X.cell? ⟨w.heap.size, 13, none⟩ = some s.vo ∧ X.cell? ⟨w.heap.size, 14, none⟩ = some s.vn ∧ X.cell? ⟨w.heap.size, 15, none⟩ = some s.vc ∧ X.cell? ⟨w.heap.size, 16, none⟩ = some s.va) ∧ X.cell? ⟨g, 0, none⟩ = some (.int .i64 A0) ∧ X.cell? ⟨g, m * 2, none⟩ = some (.int .i64 A1))
    (first | exact HS.out _ (Below.drew (Below.refl _ w2)) | exact HS.out _ hb3 | exact HS.out _ (Below.alloc hb3 (Below.size hb3) _) | exact HS.out _ (Below.drew (Below.alloc (Below.refl _ w2) (Nat.le_refl _) _)) | exact HS.out _ (Below.setCell hb3 (Nat.le_refl _) _))
    (first
    | (go_at_call 120; refine (KA.out _ (Below.drew (Below.refl _ w2))).mono ?_; rintro y w3 ⟨gf, Bf, qf, rfl, hb3', egf, qe, hask⟩; have hb3 : Below w2.heap.size w2 w3 := Below.trans (Below.drew (Below.refl _ w2)) hb3'; have HEG := Lib.hid egf; have HQE := Lib.hid qe; have PP : Hid (Ans w2.heap.size w3 e s gf Bf qf) := Lib.hid hask; clear hb3' hask egf qe)
    | (go_at_call 120; refine (KA.out _ (Below.drew (Below.alloc (Below.refl _ w2) (Nat.le_refl _) _))).mono ?_; rintro y w3 ⟨gf, Bf, qf, rfl, hb3', egf, qe, hask⟩; have hb3 : Below w2.heap.size w2 w3 := Below.trans (Below.drew (Below.alloc (Below.refl _ w2) (Nat.le_refl _) _)) (Below.mono hb3' (by simp)); have HEG := Lib.hid egf; have HQE := Lib.hid qe; have PP : Hid (Ans (w2.heap.size + 1) w3 e s gf Bf qf) := Lib.hid (by have q := hask; simp at q; exact q); obtain ⟨hfc, hff, hfl⟩ := fn_old hb3'; clear hb3' hask egf qe))
  · have hb5 : Below w2.heap.size w2 (w3.alloc (.cells #[.func (.func gf) #[] #[.pointer (some ⟨Bf, 0, none⟩)]] 60)) := hb3.alloc hb3.size _
    have fc5 : (w3.alloc (.cells #[.func (.func gf) #[] #[.pointer (some ⟨Bf, 0, none⟩)]] 60)).cell? ⟨w3.heap.size, 0, none⟩ = some (.func (.func gf) #[] #[.pointer (some ⟨Bf, 0, none⟩)]) := by simp
    have ha5 := PP.out.alloc (.cells #[.func (.func gf) #[] #[.pointer (some ⟨Bf, 0, none⟩)]] 60)
    have sz := hb3.size
    clear PP i1 i2 i3 i4 i5 i7 i8 i9 lne KA HS
    generalize w3.alloc (.cells #[.func (.func gf) #[] #[.pointer (some ⟨Bf, 0, none⟩)]] 60) = W5 at hb5 fc5 ha5 ⊢
    have gl2 : g < w2.heap.size := HH.out.lt HLP.out
    have CB : ClB g W5 (.pointer (some ⟨w3.heap.size, 0, none⟩)) (fun c => !qf c.1) := fun c W qa => by
      refine isnt_any gf Bf qf w3.heap.size c W ((qa.cell (p := ⟨w3.heap.size, 0, none⟩) (ecell_in fc5) (by show w3.heap.size ≠ g; omega)).trans fc5) HEG.out (fun W' q' => ?_)
      have bw : Below w.heap.size w W' := ((B2.out.trans (hb5.mono B2.out.size)).trans (qa.below (n0 := w.heap.size) (by omega) (Nat.le_trans B2.out.size hb5.size))).trans (q'.mono (Nat.le_trans (Nat.le_trans B2.out.size hb5.size) qa.size))
      exact ha5 W' ((kp_apt qa gl2).trans (kp_below q') qa.size) (HV.out _ bw) (HT.out _ bw) c.1
    have KD := Lib.hid (delB _ _ L g 0 cap W5 CB (HH.out.on hb5) HLP.out (by omega) (by omega))
    rw [← HN.out] at KD
    have EQ : Hid (L.filter (fun x => !(fun c : Int × Int => !qf c.1) x) = MM) := Lib.hid (by
      rw [HMV.out]
      refine List.filter_congr (fun c hc => ?_)
      obtain ⟨q1, q2, q3⟩ := TE.out c hc
      show (!(!qf c.1)) = isEb e c.1
      rw [Bool.not_not]
      exact HQE.out c.1 q2 q3 q1)
    have B5 := Lib.hid (B2.out.trans (hb5.mono B2.out.size))
    have G5 : Hid (w.heap.size ≤ g ∧ w.heap.size ≤ W5.heap.size) := Lib.hid ⟨by omega, B5.out.size⟩
    clear CB hb5 fc5 ha5 TE HQE HEG HMV
    go_wp2_with fail
    refine KD.out.mono ?_
    rintro y w6 ⟨rfl, hh6, ha6⟩
    rw [EQ.out] at hh6
    rw [EQ.out]
    have ZZ := Lib.hid (show RowM w MM (.returned (.tuple #[.slice (some ⟨g, 0, none⟩) MM.length cap, .nilIface])) w6 from ⟨_, rfl, hh6.nths, B5.out.trans (ha6.below G5.out.1 G5.out.2)⟩)
    clear KD hh6 ha6
    go_wp2
    go_ret2
    exact ZZ.out
  · have hb5 : Below w2.heap.size w2 (w3.setCell ⟨w2.heap.size, 0, none⟩ (.func (.func gf) #[] #[.pointer (some ⟨Bf, 0, none⟩)])) := hb3.setCell (Nat.le_refl _) _
    have fc5 : (w3.setCell ⟨w2.heap.size, 0, none⟩ (.func (.func gf) #[] #[.pointer (some ⟨Bf, 0, none⟩)])).cell? ⟨w2.heap.size, 0, none⟩ = some (.func (.func gf) #[] #[.pointer (some ⟨Bf, 0, none⟩)]) := World.cell?_setCell_same _ _ _ hfc
    have ha5 := PP.out.set (m := w2.heap.size) (by omega) (.func (.func gf) #[] #[.pointer (some ⟨Bf, 0, none⟩)])
    clear PP i1 i2 i3 i4 i5 i7 i8 i9 lne KA HS hfc hff hfl
    generalize w3.setCell ⟨w2.heap.size, 0, none⟩ (.func (.func gf) #[] #[.pointer (some ⟨Bf, 0, none⟩)]) = W5 at hb5 fc5 ha5 ⊢
    have gl2 : g < w2.heap.size := HH.out.lt HLP.out
    have CB : ClB g W5 (.pointer (some ⟨w2.heap.size, 0, none⟩)) (fun c => !qf c.1) := fun c W qa => by
      refine isnt_any gf Bf qf w2.heap.size c W ((qa.cell (p := ⟨w2.heap.size, 0, none⟩) (ecell_in fc5) (by show w2.heap.size ≠ g; omega)).trans fc5) HEG.out (fun W' q' => ?_)
      have bw : Below w.heap.size w W' := ((B2.out.trans (hb5.mono B2.out.size)).trans (qa.below (n0 := w.heap.size) (by omega) (Nat.le_trans B2.out.size hb5.size))).trans (q'.mono (Nat.le_trans (Nat.le_trans B2.out.size hb5.size) qa.size))
      exact ha5 W' ((kp_apt qa gl2).trans (kp_below q') qa.size) (HV.out _ bw) (HT.out _ bw) c.1
    have KD := Lib.hid (delB _ _ L g 0 cap W5 CB (HH.out.on hb5) HLP.out (by omega) (by omega))
    rw [← HN.out] at KD
    have EQ : Hid (L.filter (fun x => !(fun c : Int × Int => !qf c.1) x) = MM) := Lib.hid (by
      rw [HMV.out]
      refine List.filter_congr (fun c hc => ?_)
      obtain ⟨q1, q2, q3⟩ := TE.out c hc
      show (!(!qf c.1)) = isEb e c.1
      rw [Bool.not_not]
      exact HQE.out c.1 q2 q3 q1)
    have B5 := Lib.hid (B2.out.trans (hb5.mono B2.out.size))
    have G5 : Hid (w.heap.size ≤ g ∧ w.heap.size ≤ W5.heap.size) := Lib.hid ⟨by omega, B5.out.size⟩
    clear CB hb5 fc5 ha5 TE HQE HEG HMV
    go_wp2_with fail
    refine KD.out.mono ?_
    rintro y w6 ⟨rfl, hh6, ha6⟩
    rw [EQ.out] at hh6
    rw [EQ.out]
    have ZZ := Lib.hid (show RowM w MM (.returned (.tuple #[.slice (some ⟨g, 0, none⟩) MM.length cap, .nilIface])) w6 from ⟨_, rfl, hh6.nths, B5.out.trans (ha6.below G5.out.1 G5.out.2)⟩)
    clear KD hh6 ha6
    go_wp2
    go_ret2
    exact ZZ.out
end Go.Proofs.YtkmmncebekcegaaGreatDoor
