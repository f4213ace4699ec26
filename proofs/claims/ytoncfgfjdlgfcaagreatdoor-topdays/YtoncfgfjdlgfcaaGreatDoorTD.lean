/-
  What is proved here: what event.Real answers of an event that is wrong, and how plan.Load counts (plain words, and its closure's contract over the translation).
  What is proved here: plain facts on an event that repeats and has nothing besides its rule, as chimetop.TopDays asks them: its days, its Times and how many are on each day are one.
  What is proved here: what plan.Load answers of any list of events and any two numbers (a contract over the translation); the table of months is asked as a premise.
-/
import Derived.Test.YtoncfgfjdlgfcaaGreatDoorRJ
import Derived.Test.YtoncfgfjdlgfcaaGreatDoorPP
import Derived.Test.YtoncfgfjdlgfcaaGreatDoorBA
import Derived.Test.YtoncfgfjdlgfcaaGreatDoorBZ
import Derived.Test.YtoncfgfjdlgfcaaGreatDoorSN
import Derived.OwnWalk
namespace Go.Proofs.YtoncfgfjdlgfcaaGreatDoor.Pp
open Go.RowKit Bz Cal Txt

set_option maxRecDepth 100000 in
set_option maxHeartbeats 4000000 in
theorem real_no (e : Evt) (s : Evs) (fr t : Int) (w : World) (hv : EvB w e s) (h : ¬ evF e = 0) :
    Calls Tryz.prog 61 #[.agg (ecells e s), .int .i64 fr, .int .i64 t] w fun x w' => x = .returned (.tuple #[.slice none 0 0, fault (evF e)]) ∧ Below w.heap.size w w' := by
  have B0 := (Below.refl w.heap.size w).alloc (Nat.le_refl _) (.cells (ecells e s) 33)
  have R0 := EBox.new w e s 33
  obtain ⟨W0, hW⟩ : ∃ W0, W0 = w.alloc (.cells (ecells e s) 33) := ⟨_, rfl⟩
  rw [← hW] at B0 R0
  have HW := Lib.hid hW
  have HB := Lib.hid B0
  have HE := Lib.hid R0
  have KC := Lib.hid (echeck_any e s W0 (hv.on B0))
  generalize evF e = F at h KC ⊢
  rw [fault_not h] at KC ⊢
  clear hv B0 R0 hW h
  go_enter Tryz.func61, Tryz.ntmps61
  go_upto_region 1 with fail
  rw [← HW.out]
  clear HW
  go_wp2_with (refine ev_load ?h1 (.tmp 3) ?h2 w.heap.size e s ?h3 HE.out ?h4; (case h1 => rfl); (case h2 => rfl); (case h3 => rfl))
  refine KC.out.mono ?_
  rintro y w1 ⟨rfl, hb⟩
  have B1 := Lib.hid (HB.out.trans (hb.mono HB.out.size))
  clear hb KC HB HE
  go_wp2
  go_ret2
  exact ⟨rfl, B1.out⟩
/-- A month. -/
def isMn (y m : Int) : Prop := 1900 ≤ y ∧ y ≤ 2199 ∧ 1 ≤ m ∧ m ≤ 12
theorem mn_one {y m : Int} (h : isMn y m) : okD y m 1 := ⟨h.1, h.2.1, h.2.2.1, h.2.2.2, by omega, by have := ml_bd y m; omega⟩
theorem mn_bd {y m : Int} (h : isMn y m) : 1 ≤ num y m 1 ∧ num y m 1 + ml y m - 1 ≤ 109573 := by
  have a := num_bd (mn_one h)
  have b := ml_bd y m
  have c := num_bd (y := y) (m := m) (d := ml y m) ⟨h.1, h.2.1, h.2.2.1, h.2.2.2, by omega, by omega⟩
  have e : num y m (ml y m) = num y m 1 + ml y m - 1 := by unfold num; omega
  omega
/-- One more on the day of a time. -/
def cnt1 (lo : Int) (l : List Int) (c : Int) : List Int := l.set ((c - lo) / 1440).toNat (l.getD ((c - lo) / 1440).toNat 0 + 1)
def cntL (lo : Int) (l : List Int) (cs : List Int) : List Int := cs.foldl (cnt1 lo) l
theorem cnt1_len (lo : Int) (l : List Int) (c : Int) : (cnt1 lo l c).length = l.length := by unfold cnt1; rw [List.length_set]
theorem cntL_len (lo : Int) : ∀ (cs l : List Int), (cntL lo l cs).length = l.length
  | [], _ => rfl
  | c :: r, l => by
    show (cntL lo (cnt1 lo l c) r).length = _
    rw [cntL_len lo r, cnt1_len]
theorem cntL_step (lo : Int) (cs l : List Int) (k : Nat) (h : k < cs.length) : cntL lo l (cs.take (k + 1)) = cnt1 lo (cntL lo l (cs.take k)) (cs.getD k 0) := by
  unfold cntL
  rw [List.take_succ_eq_append_getElem h, List.foldl_append, List.getD_eq_getElem?_getD, List.getElem?_eq_getElem h]
  rfl
/-- All are from 0 to a number. -/
def Lb (n : Nat) (l : List Int) : Prop := ∀ i, 0 ≤ l.getD i 0 ∧ l.getD i 0 ≤ n
theorem Lb.mono {n m : Nat} {l : List Int} (h : Lb n l) (q : n ≤ m) : Lb m l := fun i => ⟨(h i).1, by have := (h i).2; omega⟩
theorem Lb.one {n : Nat} {l : List Int} (h : Lb n l) (lo c : Int) : Lb (n + 1) (cnt1 lo l c) := fun i => by
  unfold cnt1
  have a := h i
  have b := h ((c - lo) / 1440).toNat
  simp only [List.getD_eq_getElem?_getD, List.getElem?_set] at a b ⊢
  split
  · split
    · simp only [Option.getD_some]
      omega
    · simp
      omega
  · omega
theorem Lb.zero (n : Nat) : Lb 0 (List.replicate n 0) := fun i => by
  rw [List.getD_eq_getElem?_getD, List.getElem?_replicate]
  split <;> simp
/-- What an event has in a month; what all have. -/
def evC (lo hi : Int) (e : Evt) : List Int := (mom e (loE lo) (hiE hi)).map (·.2)
def ldG (lo hi : Int) (l : List Int) (L : List (Evt × Evs)) : List Int := L.foldl (fun l x => cntL lo l (evC lo hi x.1)) l
theorem ldG_len (lo hi : Int) : ∀ (L : List (Evt × Evs)) (l : List Int), (ldG lo hi l L).length = l.length
  | [], _ => rfl
  | x :: r, l => by
    show (ldG lo hi (cntL lo l (evC lo hi x.1)) r).length = _
    rw [ldG_len lo hi r, cntL_len]
theorem ldG_step (lo hi : Int) (l : List Int) (L : List (Evt × Evs)) (k : Nat) (h : k < L.length) : ldG lo hi l (L.take (k + 1)) = cntL lo (ldG lo hi l (L.take k)) (evC lo hi L[k].1) := by
  unfold ldG
  rw [List.take_succ_eq_append_getElem h, List.foldl_append]
  rfl
/-- The fault and the list that Load tells. -/
def mlo (y m : Int) : Int := (num y m 1 - 1) * 1440
def mhi (y m : Int) : Int := mlo y m + ml y m * 1440 - 1
instance (y m : Int) : Decidable (isMn y m) := by unfold isMn; infer_instance
def ldF (y m : Int) (L : List (Evt × Evs)) : Int := if ¬ isMn y m then 1 else if 20 < L.length then 4 else teG evF L
def ldL (y m : Int) (L : List (Evt × Evs)) : List Int := if ldF y m L = 0 then ldG (mlo y m) (mhi y m) (List.replicate (ml y m).toNat 0) L else []
theorem mlo_bd {y m : Int} (h : isMn y m) : 0 ≤ mlo y m ∧ mhi y m ≤ 157785119 ∧ 1 ≤ mhi y m ∧ hiE (mhi y m) = mhi y m := by
  have a := mn_bd h
  have b := ml_bd y m
  unfold hiE mhi mlo
  refine ⟨by omega, by omega, by omega, ?_⟩
  split <;> omega
theorem loE_le (lo : Int) : lo ≤ loE lo := by unfold loE; split <;> omega
theorem evC_mem {y m c : Int} {e : Evt} (hm : isMn y m) (he : evF e = 0) (h : c ∈ evC (mlo y m) (mhi y m) e) : mlo y m ≤ c ∧ c ≤ mhi y m ∧ (c - mlo y m) / 1440 < ml y m := by
  obtain ⟨h0, h1, h2, h3⟩ := mlo_bd hm
  obtain ⟨x, hx, rfl⟩ := List.mem_map.1 h
  rw [h3] at hx
  have ll := loE_le (mlo y m)
  have hb : mhi y m = mlo y m + ml y m * 1440 - 1 := rfl
  have mb := ml_bd y m
  have i1 : ist (loE (mlo y m)) = true := ist_yes (by unfold loE; split <;> omega) (by unfold loE; split <;> omega)
  have i2 : ist (mhi y m) = true := ist_yes (by omega) (by omega)
  obtain ⟨_, _, q1, q2⟩ := (mom_mem he i1 i2).1 hx
  refine ⟨by omega, q2, ?_⟩
  have : mhi y m = mlo y m + ml y m * 1440 - 1 := rfl
  omega
theorem evC_len {lo hi : Int} {e : Evt} (he : evF e = 0) : (evC lo hi e).length ≤ 200200 := by
  unfold evC mom
  rw [List.length_map, List.length_append]
  have := sty_len (fr := loE lo) (t := hiE hi) he
  have := mvd_len (fr := loE lo) (t := hiE hi) he
  omega
set_option maxRecDepth 100000 in
set_option maxHeartbeats 4000000 in
/-- The closure that counts. -/
theorem cnt_any (g bl bb mm n0 : Nat) (lo c : Int) (k : Nat) (l : List Int) (w : World) (hl : w.cell? ⟨bl, 0, none⟩ = some (.slice (some ⟨g, 0, none⟩) mm mm)) (hb : w.cell? ⟨bb, 0, none⟩ = some (.int .i64 lo)) (ho : w.ownsRow n0 3 1 (.slice (some ⟨g, 0, none⟩) mm mm) mm (nums l)) (hn : l.length = mm)
    (h0 : 0 ≤ lo) (h1 : lo ≤ c) (h2 : c ≤ 157785119) (hk : (c - lo) / 1440 = (k : Int)) (hk2 : k < mm) (hx : 0 ≤ l.getD k 0 ∧ l.getD k 0 ≤ 100000000) (_hmm : mm ≤ 31) :
    Calls Tryz.prog 60 #[.int .i64 c, .pointer (some ⟨bl, 0, none⟩), .pointer (some ⟨bb, 0, none⟩)] w fun x w' => x = .returned (.tuple #[]) ∧ w' = w.setCell ⟨g, k, none⟩ (.int .i64 (l.getD k 0 + 1)) := by
  have ck : w.cell? ⟨g, k, none⟩ = some (.int .i64 (l.getD k 0)) ∧ w.frozen? ⟨g, k, none⟩ = false := by
    have hO2 := ho
    rw [← hn] at hO2
    rcases own_hol hO2 with ⟨q, _⟩ | ⟨g', cap', q, _, _, _, hh⟩
    · cases q
    · obtain ⟨rfl, _⟩ : g = g' ∧ l.length = cap' := by simpa using q
      have := hh k (by omega)
      rwa [Nat.zero_add] at this
  obtain ⟨c1, f1⟩ := ck
  have l1 := ecell_in hl
  have l2 := ecell_in hb
  have l3 := ecell_in c1
  generalize l.getD k 0 = x at c1 hx ⊢
  clear ho hn
  go_enter Tryz.func60, Tryz.ntmps60
  go_wp2
  go_end0
  exact ⟨rfl, rfl⟩
end Go.Proofs.YtoncfgfjdlgfcaaGreatDoor.Pp
namespace Go.Proofs.YtoncfgfjdlgfcaaGreatDoor.Td
open Go.RowKit Cal Txt Pp

/-- An event that has a rule and nothing besides. -/
def Plain (e : Evt) : Prop := evF e = 0 ∧ e.rep = true ∧ e.more = [] ∧ e.nots = [] ∧ e.chg = []
/-- Its days from one to another one. -/
abbrev dsL (e : Evt) (fr t : Int) : List Int := bwA e.rule (dyo e.start) fr t
theorem mem_ds {e : Evt} {fr t x : Int} : x ∈ dsL e fr t ↔ x ∈ DAYS e.rule (dyo e.start) ∧ fr ≤ x ∧ x ≤ t := by
  unfold dsL bwA
  rw [List.mem_filter]
  simp
theorem ds_rise (e : Evt) (fr t : Int) : (dsL e fr t).Pairwise (· < ·) := (DAYS_rise _ _).filter _
theorem rise_len : ∀ {l : List Int} {fr : Int} {n : Nat}, l.Pairwise (· < ·) → (∀ x ∈ l, fr ≤ x ∧ x < fr + n) → l.length ≤ n
  | [], _, _, _, _ => Nat.zero_le _
  | a :: r, fr, n, h, q => by
    obtain ⟨a1, a2⟩ := q a (by simp)
    obtain ⟨p1, p2⟩ := List.pairwise_cons.1 h
    have ih := rise_len (l := r) (fr := fr + 1) (n := n - 1) p2 (fun x hx => by
      have := p1 x hx
      have := (q x (List.mem_cons_of_mem _ hx)).2
      omega)
    show r.length + 1 ≤ n
    omega
theorem ds_len (e : Evt) (fr t : Int) (n : Nat) (h : t - fr < n) : (dsL e fr t).length ≤ n := rise_len (fr := fr) (ds_rise e fr t) (fun x hx => by have := (mem_ds.1 hx).2; omega)
theorem pl_is {e : Evt} (h : Plain e) (x : Int) : isE e x ↔ ∃ n, n ∈ DAYS e.rule (dyo e.start) ∧ x = tmd e.start n := by
  obtain ⟨_, h2, h3, h4, _⟩ := h
  unfold isE isS
  rw [h2, h3, h4]
  simp
theorem pl_rea {e : Evt} (h : Plain e) (x : Int) : rea e x = some x := by
  unfold rea
  rw [h.2.2.2.2]
  rfl
/-- A time's day and its minute. -/
theorem pl_start {e : Evt} (h : Plain e) : ∃ q, 0 ≤ q ∧ q < 1440 ∧ e.start = (dyo e.start - 1) * 1440 + q ∧ q = e.start % 1440 ∧ ∀ n, tmd e.start n = (n - 1) * 1440 + q := by
  have s := (evF_lens h.1).2.2.1
  have d := dyo_ok s
  refine ⟨e.start % 1440, by omega, by omega, by omega, rfl, fun n => ?_⟩
  unfold tmd
  omega
/-- A month that is neither in the first year nor in the last one. -/
theorem mid_bd {y m : Int} (h : isMn y m) (h1 : 1901 ≤ y) (h2 : y ≤ 2198) : 366 ≤ num y m 1 ∧ num y m 1 + ml y m - 1 ≤ 109208 := by
  have a := num_year (mn_one h)
  have b := ml_bd y m
  have c := num_year (y := y) (m := m) (d := ml y m) ⟨h.1, h.2.1, h.2.2.1, h.2.2.2, by omega, by omega⟩
  have e : num y m (ml y m) = num y m 1 + ml y m - 1 := by unfold num; omega
  have f1 := bef_mono h1
  have f2 := bef_mono (show y + 1 ≤ 2199 by omega)
  have g1 : bef 1901 = 365 := by decide
  have g2 : bef 2199 = 109208 := by decide
  omega
section
variable {e : Evt} {y m a : Int} (hp : Plain e) (hm : isMn y m) (h1 : 1901 ≤ y) (h2 : y ≤ 2198) (ha : Zo.zf a [] = 0)
/-- The stretch that TopDays asks Between for. -/
abbrev frD (y m a : Int) : Int := (num y m 1 - 1) * 1440 - a
abbrev toD (y m a : Int) : Int := frD y m a + ml y m * 1440
/-- A day as the Time that it gives. -/
def dTm (e : Evt) (a n : Int) : Tm := (tmd e.start n, tmd e.start n - a, tmd e.start n - a + e.len)
include ha in
theorem zone_in : -900 ≤ a ∧ a ≤ 900 := by
  by_cases q : -900 ≤ a ∧ a ≤ 900
  · exact q
  · exfalso
    unfold Zo.zf at ha
    simp at ha
    omega
include hp hm h1 h2 ha in
theorem td_tms : tmL a [] e (frD y m a) (toD y m a) = (dsL e (num y m 1) (num y m 1 + ml y m - 1)).map (dTm e a) := by
  obtain ⟨b1, b2⟩ := mid_bd hm h1 h2
  have mb := ml_bd y m
  have az := zone_in ha
  obtain ⟨q, q0, q1, q2, q3, q4⟩ := pl_start hp
  obtain ⟨_, _, _, _, _, l0, l1⟩ := evF_lens hp.1
  have o1 : okS (frD y m a) (toD y m a) := by unfold okS toD frD; omega
  refine tm_ext (tmL_rise hp.1 o1) ?_ (fun z => ?_)
  · rw [List.pairwise_map]
    refine (ds_rise e _ _).imp (fun {u v} huv => ?_)
    unfold ltT dTm
    rw [q4, q4]
    exact Or.inl (by show (u - 1) * 1440 + q - a < (v - 1) * 1440 + q - a; omega)
  rw [tmL_mem hp.1 ha o1, List.mem_map]
  unfold isTm
  simp only [pl_is hp, pl_rea hp]
  constructor
  · rintro ⟨⟨n, hn, e1⟩, ⟨r, hr, ht⟩, f1, f2⟩
    obtain ⟨_, _, t3⟩ := tim_nil.1 ht
    simp only [Option.some.injEq] at hr
    subst hr
    rw [e1] at t3
    have t4 : z.2.1 = tmd e.start n - a := by rw [t3]
    rw [t4, q4] at f1 f2
    refine ⟨n, mem_ds.2 ⟨hn, ?_, ?_⟩, t3.symm⟩
    · unfold frD at f1; omega
    · unfold toD frD at f2; omega
  · rintro ⟨n, hn, rfl⟩
    obtain ⟨n1, n2, n3⟩ := mem_ds.1 hn
    have e4 := q4 n
    unfold dTm
    rw [e4]
    refine ⟨⟨n, n1, by rw [q4]⟩, ⟨_, rfl, tim_nil.2 ⟨ist_yes (by omega) (by omega), by omega, rfl⟩⟩, ?_, ?_⟩
    · show frD y m a ≤ (n - 1) * 1440 + q - a; unfold frD; omega
    · show (n - 1) * 1440 + q - a < toD y m a; unfold toD frD; omega
include hp hm h1 h2 ha in
theorem td_told : tbF a [] e (frD y m a) (toD y m a) = 0 ∧ tbL a [] e (frD y m a) (toD y m a) = (dsL e (num y m 1) (num y m 1 + ml y m - 1)).map (dTm e a) := by
  obtain ⟨b1, b2⟩ := mid_bd hm h1 h2
  have mb := ml_bd y m
  have az := zone_in ha
  have ez : ezF a [] e = 0 := by unfold ezF; rw [if_neg (fun z => z hp.1)]; exact ha
  have sb : strB (frD y m a) (toD y m a) = true := by
    unfold strB
    rw [ist_yes (by unfold frD; omega) (by unfold frD; omega), ist_yes (by unfold toD frD; omega) (by unfold toD frD; omega)]
    unfold toD
    simp
    omega
  have ln : (tmL a [] e (frD y m a) (toD y m a)).length ≤ 31 := by
    rw [td_tms hp hm h1 h2 ha, List.length_map]
    exact ds_len e _ _ 31 (by omega)
  have h0 : tbF a [] e (frD y m a) (toD y m a) = 0 := by
    unfold tbF
    rw [if_neg (fun z => z ez), if_neg (by rw [sb]; decide), if_neg (by omega)]
  exact ⟨h0, by unfold tbL; rw [if_pos h0, td_tms hp hm h1 h2 ha]⟩
include hp in
theorem td_days : bwF e.rule (dyo e.start) (num y m 1) (num y m 1 + ml y m - 1) = 0 ∧ bwL e.rule (dyo e.start) (num y m 1) (num y m 1 + ml y m - 1) = dsL e (num y m 1) (num y m 1 + ml y m - 1) := by
  have mb := ml_bd y m
  have ru : rf e.rule = 0 := by
    have := (evF_lens hp.1).2.1
    unfold ruF at this
    rwa [hp.2.1] at this
  have s0 := sf_ev ru (evF_lens hp.1).2.2.1
  have ln : (bwA e.rule (dyo e.start) (num y m 1) (num y m 1 + ml y m - 1)).length ≤ 200 := Nat.le_trans (ds_len e _ _ 31 (by omega)) (by decide)
  exact ⟨by unfold bwF; rw [if_pos s0, if_neg (by omega)], by unfold bwL; rw [if_pos ⟨s0, ln⟩]⟩
include hp hm h1 in
/-- What Load counts. -/
theorem td_evC (h2 : y ≤ 2198) : evC (mlo y m) (mhi y m) e = (dsL e (num y m 1) (num y m 1 + ml y m - 1)).map (tmd e.start) := by
  obtain ⟨b1, b2⟩ := mid_bd hm h1 h2
  have mb := ml_bd y m
  obtain ⟨q, q0, q1, q2, q3, q4⟩ := pl_start hp
  obtain ⟨g0, g1, g2, g3⟩ := mlo_bd hm
  have lo0 : mlo y m = (num y m 1 - 1) * 1440 := rfl
  have hi0 : mhi y m = mlo y m + ml y m * 1440 - 1 := rfl
  have l1 : loE (mlo y m) = mlo y m := by unfold loE; split <;> omega
  have i1 : ist (mlo y m) = true := ist_yes (by omega) (by omega)
  have i2 : ist (mhi y m) = true := ist_yes (by omega) (by omega)
  unfold evC
  rw [l1, g3]
  have em : mvd e (mlo y m) (mhi y m) = [] := by unfold mvd; rw [hp.2.2.2.2]; rfl
  have es : (mom e (mlo y m) (mhi y m)).map (·.2) = evL (stL e (mlo y m) (mhi y m)) e (mlo y m) (mhi y m) := by
    unfold mom
    rw [em, List.append_nil]
    unfold sty
    rw [hp.2.2.2.2, List.map_map]
    have : (evL (stL e (mlo y m) (mhi y m)) e (mlo y m) (mhi y m)).filter (fun x => (chOf [] x).isNone) = evL (stL e (mlo y m) (mhi y m)) e (mlo y m) (mhi y m) := List.filter_eq_self.2 (fun _ _ => rfl)
    rw [this]
    exact List.map_id'' (fun _ => rfl) _
  rw [es]
  refine rise_ext2 (evL_rise _ _ _ _) ?_ (fun x => ?_)
  · rw [List.pairwise_map]
    refine (ds_rise e _ _).imp (fun {u v} huv => ?_)
    rw [q4, q4]
    omega
  rw [evL_is hp.1 i1 i2, pl_is hp, List.mem_map]
  constructor
  · rintro ⟨⟨n, hn, rfl⟩, f1, f2⟩
    rw [q4] at f1 f2
    exact ⟨n, mem_ds.2 ⟨hn, by omega, by omega⟩, rfl⟩
  · rintro ⟨n, hn, rfl⟩
    obtain ⟨n1, n2, n3⟩ := mem_ds.1 hn
    refine ⟨⟨n, n1, rfl⟩, ?_, ?_⟩ <;> rw [q4] <;> omega
end
/-- Where no time lies on a day, it stays as it is. -/
theorem cntL_out (lo : Int) (j : Nat) : ∀ (cs l : List Int), (∀ c ∈ cs, ((c - lo) / 1440).toNat ≠ j) → (cntL lo l cs).getD j 0 = l.getD j 0
  | [], _, _ => rfl
  | c :: r, l, h => by
    show (cntL lo (cnt1 lo l c) r).getD j 0 = _
    rw [cntL_out lo j r _ (fun x hx => h x (List.mem_cons_of_mem _ hx))]
    unfold cnt1
    have := h c (by simp)
    simp only [List.getD_eq_getElem?_getD, List.getElem?_set]
    rw [if_neg this]
/-- Where just one lies there, it is one more. -/
theorem cntL_in (lo : Int) (j : Nat) : ∀ (cs l : List Int), j < l.length → cs.Pairwise (fun a b => ((a - lo) / 1440).toNat ≠ ((b - lo) / 1440).toNat) → (∃ c ∈ cs, ((c - lo) / 1440).toNat = j) → (cntL lo l cs).getD j 0 = l.getD j 0 + 1
  | [], _, _, _, h => by obtain ⟨c, hc, _⟩ := h; simp at hc
  | c :: r, l, hj, hp, h => by
    obtain ⟨p1, p2⟩ := List.pairwise_cons.1 hp
    show (cntL lo (cnt1 lo l c) r).getD j 0 = _
    by_cases q : ((c - lo) / 1440).toNat = j
    · rw [cntL_out lo j r _ (fun x hx e => p1 x hx (q.trans e.symm))]
      unfold cnt1
      simp only [List.getD_eq_getElem?_getD, List.getElem?_set, q, if_true]
      rw [if_pos hj]
      rfl
    · obtain ⟨x, hx, e⟩ := h
      have hx2 : x ∈ r := by
        rcases List.mem_cons.1 hx with rfl | hx
        · exact absurd e q
        · exact hx
      rw [cntL_in lo j r _ (by rw [cnt1_len]; exact hj) p2 ⟨x, hx2, e⟩]
      unfold cnt1
      simp only [List.getD_eq_getElem?_getD, List.getElem?_set]
      rw [if_neg q]
/-- What all are together. -/
def sumL : List Int → Int
  | [] => 0
  | a :: r => a + sumL r
theorem sumL_app : ∀ (l m : List Int), sumL (l ++ m) = sumL l + sumL m
  | [], m => by simp [sumL]
  | a :: r, m => by
    show a + sumL (r ++ m) = a + sumL r + sumL m
    rw [sumL_app r m]
    omega
theorem sumL_take {l : List Int} {k : Nat} (h : k < l.length) : sumL (l.take (k + 1)) = sumL (l.take k) + l.getD k 0 := by
  rw [List.take_succ_eq_append_getElem h, sumL_app, List.getD_eq_getElem?_getD, List.getElem?_eq_getElem h]
  simp [sumL]
theorem sumL_set : ∀ (l : List Int) (k : Nat) (x : Int), k < l.length → sumL (l.set k x) = sumL l - l.getD k 0 + x
  | a :: r, 0, x, _ => by simp [sumL]; omega
  | a :: r, k + 1, x, h => by
    have ih := sumL_set r k x (by simpa using h)
    show a + sumL (r.set k x) = a + sumL r - r.getD k 0 + x
    omega
theorem sumL_cnt (lo : Int) : ∀ (cs l : List Int), (∀ c ∈ cs, ((c - lo) / 1440).toNat < l.length) → sumL (cntL lo l cs) = sumL l + cs.length
  | [], l, _ => by simp [cntL]
  | c :: r, l, h => by
    show sumL (cntL lo (cnt1 lo l c) r) = _
    rw [sumL_cnt lo r _ (fun x hx => by rw [cnt1_len]; exact h x (List.mem_cons_of_mem _ hx))]
    unfold cnt1
    rw [sumL_set _ _ _ (h c (by simp))]
    simp
    omega
theorem sumL_zero : ∀ n : Nat, sumL (List.replicate n 0) = 0
  | 0 => rfl
  | n + 1 => by rw [List.replicate_succ]; show 0 + sumL _ = 0; rw [sumL_zero n]; rfl
theorem cntL_low (lo : Int) : ∀ (cs l : List Int), (∀ i, 0 ≤ l.getD i 0) → ∀ i, 0 ≤ (cntL lo l cs).getD i 0
  | [], _, h, i => h i
  | c :: r, l, h, i => by
    show 0 ≤ (cntL lo (cnt1 lo l c) r).getD i 0
    refine cntL_low lo r _ (fun j => ?_) i
    unfold cnt1
    have a := h j
    have b := h ((c - lo) / 1440).toNat
    simp only [List.getD_eq_getElem?_getD, List.getElem?_set] at a b ⊢
    split
    · split
      · simp only [Option.getD_some]
        omega
      · simp
    · omega
theorem sumL_low : ∀ {l : List Int}, (∀ i, 0 ≤ l.getD i 0) → 0 ≤ sumL l
  | [], _ => by simp [sumL]
  | a :: r, h => by
    have q := sumL_low (l := r) (fun i => by simpa using h (i + 1))
    have z : 0 ≤ a := by simpa using h 0
    show 0 ≤ a + sumL r
    omega
theorem sumL_part {l : List Int} (h : ∀ i, 0 ≤ l.getD i 0) (k : Nat) : 0 ≤ sumL (l.take k) ∧ sumL (l.take k) ≤ sumL l := by
  have e : sumL l = sumL (l.take k) + sumL (l.drop k) := by rw [← sumL_app, List.take_append_drop]
  have a : 0 ≤ sumL (l.take k) := sumL_low (fun i => by
    have := h i
    simp only [List.getD_eq_getElem?_getD, List.getElem?_take] at this ⊢
    split
    · exact this
    · simp)
  have b : 0 ≤ sumL (l.drop k) := sumL_low (fun i => by
    have := h (k + i)
    simpa only [List.getD_eq_getElem?_getD, List.getElem?_drop] using this)
  omega
section
variable {e : Evt} {y m : Int} (hp : Plain e) (hm : isMn y m) (h1 : 1901 ≤ y) (h2 : y ≤ 2198) (s : Evs)
include hp hm h1 h2 in
/-- What Load tells of the event: one on each of its days, and as many together as there are days. -/
theorem td_load : ldF y m [(e, s)] = 0 ∧ (ldL y m [(e, s)]).length = (ml y m).toNat ∧ sumL (ldL y m [(e, s)]) = (dsL e (num y m 1) (num y m 1 + ml y m - 1)).length ∧ (∀ n ∈ dsL e (num y m 1) (num y m 1 + ml y m - 1), (ldL y m [(e, s)]).getD (n - num y m 1).toNat 0 = 1) ∧ ∀ i, 0 ≤ (ldL y m [(e, s)]).getD i 0 := by
  have mb := ml_bd y m
  obtain ⟨q, q0, q1, q2, q3, q4⟩ := pl_start hp
  have h0 : ldF y m [(e, s)] = 0 := by
    unfold ldF
    rw [if_neg (fun z => z hm), if_neg (by simp)]
    show (if evF e = 0 then _ else _) = _
    rw [if_pos hp.1]
    rfl
  have lo0 : mlo y m = (num y m 1 - 1) * 1440 := rfl
  have ix : ∀ n, n ∈ dsL e (num y m 1) (num y m 1 + ml y m - 1) → (tmd e.start n - mlo y m) / 1440 = n - num y m 1 ∧ 0 ≤ n - num y m 1 ∧ n - num y m 1 < ml y m := fun n hn => by
    obtain ⟨_, n2, n3⟩ := mem_ds.1 hn
    rw [q4, lo0]
    omega
  have el : ldL y m [(e, s)] = cntL (mlo y m) (List.replicate (ml y m).toNat 0) ((dsL e (num y m 1) (num y m 1 + ml y m - 1)).map (tmd e.start)) := by
    unfold ldL
    rw [if_pos h0]
    show cntL _ _ (evC _ _ e) = _
    rw [td_evC hp hm h1 h2]
  rw [el]
  refine ⟨h0, by rw [cntL_len, List.length_replicate], ?_, fun n hn => ?_, cntL_low _ _ _ (fun i => by rw [List.getD_eq_getElem?_getD, List.getElem?_replicate]; split <;> simp)⟩
  · rw [sumL_cnt, sumL_zero, List.length_map]
    · omega
    · intro c hc
      obtain ⟨n, hn, rfl⟩ := List.mem_map.1 hc
      have := ix n hn
      rw [this.1, List.length_replicate]
      omega
  · have k := ix n hn
    rw [cntL_in]
    · rw [List.getD_eq_getElem?_getD, List.getElem?_replicate]
      split <;> rfl
    · rw [List.length_replicate]; omega
    · rw [List.pairwise_map]
      refine List.Pairwise.imp_of_mem (fun {u v} hu hv huv => ?_) (ds_rise e _ _)
      have := ix u hu
      have := ix v hv
      omega
    · exact ⟨_, List.mem_map.2 ⟨n, hn, rfl⟩, by rw [k.1]⟩
end
end Go.Proofs.YtoncfgfjdlgfcaaGreatDoor.Td
namespace Go.Proofs.YtoncfgfjdlgfcaaGreatDoor.Pp
open Go.RowKit Bz Cal Txt

/-- What Load answers. -/
def LdA (w : World) (l : List Int) (f : Int) (x : Ending) (w' : World) : Prop := ∃ u, x = .returned (.tuple #[u, fault f]) ∧ Wr w.heap.size w' u l ∧ Below w.heap.size w w'
theorem nums_set (l : List Int) (k : Nat) (x : Int) : nums (l.set k x) = (nums l).set k (.int .i64 x) := by unfold nums; rw [List.map_set]
theorem made_ints (n : Nat) : (madeCells #[Value.int .i64 0] n).toList = nums (List.replicate n 0) := by
  unfold nums
  rw [List.map_replicate]
  apply List.ext_getElem
  · simp [madeCells]
  · intro i h1 h2
    simp [madeCells, Nat.mod_one]
theorem ow_apt {w W : World} {n0 n g : Nat} {v : Value} {l : List Int} (h : w.ownsRow n0 3 1 v n (nums l)) (q : Apt g w W) (hg : v.ownBlock ≠ some g) : W.ownsRow n0 3 1 v n (nums l) := by
  refine ⟨h.1, ?_⟩
  rcases h.2 with z | ⟨b, cap, cur, hv, hb, hc, r⟩
  · exact Or.inl z
  · have hlt : b < w.heap.size := by
      rcases Nat.lt_or_ge b w.heap.size with k | k
      · exact k
      · rw [Array.getElem?_eq_none k] at hc; cases hc
    exact Or.inr ⟨b, cap, cur, hv, hb, (q.block b hlt (fun e => hg (by rw [hv, e]; rfl))).trans hc, r⟩
set_option maxRecDepth 100000 in
set_option maxHeartbeats 8000000 in
theorem load_any (L : List (Evt × Evs)) (y m : Int) (vl : Value) (w : World) (hL : Evl w vl L) (hl : L.length ≤ 9223372036854775807) (hT : Tab w) :
    Calls Tryz.prog 22 #[vl, .int .i64 y, .int .i64 m] w (LdA w (ldL y m L) (ldF y m L)) := by
  have HL := Lib.hid hL
  obtain ⟨ae, ce, rfl⟩ := hL.form
  by_cases hm : isMn y m
  case neg =>
    have N : Hid (ldF y m L = 1 ∧ ldL y m L = []) := Lib.hid (by
      have e : ldF y m L = 1 := by unfold ldF; rw [if_pos hm]
      exact ⟨e, by unfold ldL; rw [e]; rfl⟩)
    generalize ldF y m L = F at N ⊢
    generalize ldL y m L = R at N ⊢
    have HM := Lib.hid hm
    clear hm hL hT HL
    go_enter Tryz.func22, Tryz.ntmps22
    go_wp2_with (go_at_call 35; refine (days_no _ _ _ HM.out).mono ?_; rintro e w' ⟨rfl, rfl⟩)
    go_ret2
    exact ⟨_, by rw [N.out.1]; rfl, by rw [N.out.2]; exact Wr.nil _ _, Below.refl _ _⟩
  have HT := Lib.hid hT
  obtain ⟨a1, a2, h1, h2⟩ := id hm
  by_cases h20 : 20 < L.length
  · have N : Hid (ldF y m L = 4 ∧ ldL y m L = []) := Lib.hid (by
      have e : ldF y m L = 4 := by unfold ldF; rw [if_neg (fun q => q hm), if_pos h20]
      exact ⟨e, by unfold ldL; rw [e]; rfl⟩)
    generalize ldF y m L = F at N ⊢
    generalize ldL y m L = R at N ⊢
    have n20 : (20 : Int) < (L.length : Int) := by omega
    clear hm hL HL
    go_enter Tryz.func22, Tryz.ntmps22
    go_wp2_with (go_at_call 35; refine (days_yes _ _ _ hT a1 a2 h1 h2).mono ?_; rintro e w' ⟨rfl, rfl⟩)
    go_ret2
    exact ⟨_, by rw [N.out.1]; rfl, by rw [N.out.2]; exact Wr.nil _ _, Below.refl _ _⟩
  have OK := Lib.hid (mn_one hm)
  have HM := Lib.hid hm
  have MB := mlo_bd hm
  have EF : Hid (ldF y m L = teG evF L) := Lib.hid (by unfold ldF; rw [if_neg (fun q => q hm), if_neg h20])
  have EL : Hid (ldL y m L = if ldF y m L = 0 then ldG (mlo y m) (mhi y m) (List.replicate (ml y m).toNat 0) L else []) := Lib.hid rfl
  have EM := Lib.hid (fun c e => evC_mem (y := y) (m := m) (c := c) (e := e) hm)
  have D1 := days_yes y m w hT a1 a2 h1 h2
  have K1 := Lib.hid (of_yes y m 1 w hT OK.out)
  have mb := ml_bd y m
  have hi0 : mhi y m = mlo y m + ml y m * 1440 - 1 := rfl
  have lo0 : mlo y m = (num y m 1 - 1) * 1440 := rfl
  have nb := mn_bd hm
  obtain ⟨M, hM⟩ : ∃ M : Nat, ml y m = (M : Int) := ⟨(ml y m).toNat, by omega⟩
  rw [hM] at D1 EL hi0 mb nb EM
  rw [Int.toNat_natCast] at EL
  generalize ldF y m L = RF at EF EL ⊢
  generalize ldL y m L = RL at EL ⊢
  generalize mhi y m = hi at hi0 MB EL EM
  generalize mlo y m = lo at hi0 lo0 MB EL EM
  generalize num y m 1 = F at K1 lo0 nb
  have n20 : ¬ (20 : Int) < (L.length : Int) := by omega
  have HD1 := Lib.hid D1
  have HLO := Lib.hid lo0
  have HHI := Lib.hid hi0
  obtain ⟨i0, hi1, hz0, hz1, hz2⟩ := info_parts info_ev_int
  have eg : ∀ args w, (callFunc 60 args).run Tryz.prog w = .ok (.enter 60 args) w := enters_of Tryz.func60 (by kernel_rfl) rfl
  clear hm hL D1 OK lo0 hi0 hT
  go_enter Tryz.func22, Tryz.ntmps22
  go_wp2_with (go_at_call 35; refine HD1.out.mono ?_; rintro e w' ⟨rfl, hw⟩; replace hw := hw.symm; subst hw)
  refine K1.out.mono ?_
  rintro e w1 ⟨rfl, hb1⟩
  have B1 := Lib.hid hb1
  have b2 := below_one w1 (.cells #[(.int .i64 ((F - 1) * 1440))] 3)
  have c2 : (w1.alloc (.cells #[(.int .i64 ((F - 1) * 1440))] 3)).cell? ⟨w1.heap.size, 0, none⟩ = some (.int .i64 ((F - 1) * 1440)) := by simp
  obtain ⟨W2, hW2⟩ : ∃ W2, W2 = w1.alloc (.cells #[(.int .i64 ((F - 1) * 1440))] 3) := ⟨_, rfl⟩
  rw [← hW2] at b2 c2
  have HW2 := Lib.hid hW2
  have B2 := Lib.hid b2
  have C2 := Lib.hid c2
  clear hb1 hW2 b2 c2 K1
  go_upto_region 10 with fail
  rw [← HW2.out]
  clear HW2
  go_wp2_with (at_make; refine wpList_make_full _ rfl _ _ 26 rfl w.heap.size 3 i0 (.int .i64 0) 1 Tryz.underlying26 hi1 hz0 hz1 _ _ _ _ M rfl rfl rfl rfl ?b2 ?b3 ?b4 ?_)
  case b2 => rw [hz2]; omega
  case b3 => unfold maxLen; omega
  case b4 => exact Nat.le_trans B1.out.size B2.out.size
  intro w3 hown hgrow
  rw [made_ints] at hown
  have b23 : Below W2.heap.size W2 w3 := (Below.refl _ _).grown hgrow (Nat.le_refl _) (fun k h => by cases h)
  obtain ⟨g, hg⟩ : ∃ g, g = W2.heap.size := ⟨_, rfl⟩
  rw [← hg] at hown ⊢
  obtain ⟨bb, hbb⟩ : ∃ bb, bb = w1.heap.size := ⟨_, rfl⟩
  have b34 := below_one w3 (.cells #[(.slice (some ⟨g, 0, none⟩) M M)] 26)
  have c4 : (w3.alloc (.cells #[(.slice (some ⟨g, 0, none⟩) M M)] 26)).cell? ⟨w3.heap.size, 0, none⟩ = some (.slice (some ⟨g, 0, none⟩) M M) := by simp
  obtain ⟨bl, hbl⟩ : ∃ bl, bl = w3.heap.size := ⟨_, rfl⟩
  have l2 : bb < W2.heap.size := by rw [hbb]; exact ecell_in C2.out
  have gl : g < w3.heap.size := by
    rcases hown.2 with ⟨q, _⟩ | ⟨g', cap', cur, q, _, hc, _⟩
    · cases q
    · obtain ⟨rfl, _⟩ : g = g' ∧ M = cap' := by simpa using q
      rcases Nat.lt_or_ge g w3.heap.size with k | k
      · exact k
      · rw [Array.getElem?_eq_none k] at hc; cases hc
  have c3 : (w3.alloc (.cells #[(.slice (some ⟨g, 0, none⟩) M M)] 26)).cell? ⟨bb, 0, none⟩ = some (.int .i64 ((F - 1) * 1440)) := (b34.cell (p := ⟨bb, 0, none⟩) (Nat.lt_of_lt_of_le l2 b23.size)).trans ((b23.cell (p := ⟨bb, 0, none⟩) l2).trans (by rw [hbb]; exact C2.out))
  have B4 : Below w.heap.size w (w3.alloc (.cells #[(.slice (some ⟨g, 0, none⟩) M M)] 26)) := B1.out.trans ((B2.out.trans ((b23.mono B2.out.size).trans (b34.mono (Nat.le_trans B2.out.size b23.size)))).mono B1.out.size)
  obtain ⟨W4, hW4⟩ : ∃ W4, W4 = w3.alloc (.cells #[(.slice (some ⟨g, 0, none⟩) M M)] 26) := ⟨_, rfl⟩
  rw [← hW4] at b34 c4 c3 B4
  have HW4 := Lib.hid hW4
  have LT : Hid (w.heap.size ≤ g ∧ w.heap.size ≤ bb ∧ w.heap.size ≤ bl ∧ bb < g ∧ g < bl ∧ bl < W4.heap.size) := Lib.hid (by
    have := B1.out.size
    have := ecell_in c4
    have := b23.size
    omega)
  have O4 := Lib.hid (ow_below hown b34)
  have D4 : Hid (W4.cell? ⟨bl, 0, none⟩ = some (.slice (some ⟨g, 0, none⟩) M M) ∧ W4.cell? ⟨bb, 0, none⟩ = some (.int .i64 ((F - 1) * 1440))) := Lib.hid ⟨by rw [hbl]; exact c4, c3⟩
  have HB4 := Lib.hid B4
  have ML : M ≤ 31 := by omega
  rw [← hbb]
  clear hown b23 b34 c4 c3 B4 hW4 hgrow l2 gl C2 B2 B1 hg hbb
  go_upto_region 11 with fail
  rw [← HW4.out, ← hbl]
  clear HW4 hbl
  go_wp2_with fail
  have ZS := Lib.hid (Lb.zero M)
  have CT := Lib.hid (fun c e (he : evF e = 0) h => EM.out c e he h)
  go_loopw [51, 15, 16, 17, 19] (fun iv _ _ _ _ wr => ∃ k : Nat, k ≤ L.length ∧ iv = .int .i64 k ∧ Hid (Apt g W4 wr) ∧ Hid (wr.ownsRow w.heap.size 3 1 (.slice (some ⟨g, 0, none⟩) M M) M (nums (ldG lo hi (List.replicate M 0) (L.take k)))) ∧ Hid (Lb (200200 * k) (ldG lo hi (List.replicate M 0) (L.take k))) ∧ Hid (teG evF L = teG evF (L.drop k))) (fun iv _ _ _ _ _ => L.length - (intOf iv).toNat)
  case atStart => exact ⟨0, Nat.zero_le _, rfl, Lib.hid (Apt.refl _ _), O4, Lib.hid (by rw [Nat.mul_zero]; exact ZS.out), Lib.hid rfl⟩
  case round =>
    obtain ⟨k, hk, rfl, HA, HO, HLB, HG⟩ := hrel
    obtain ⟨q1, q2, q3, q4, q5, q6⟩ := LT.out
    have BW := Lib.hid (HB4.out.trans (HA.out.below q1 (by omega)))
    have cl := (HA.out.cell (p := ⟨bl, 0, none⟩) (by show bl < _; omega) (by show bl ≠ g; omega)).trans D4.out.1
    have cb := (HA.out.cell (p := ⟨bb, 0, none⟩) (by show bb < _; omega) (by show bb ≠ g; omega)).trans D4.out.2
    have cll := ecell_in cl
    have cbl := ecell_in cb
    by_cases hlt : k < L.length
    case neg =>
      have hk2 : k = L.length := by omega
      have G0 : teG evF L = 0 := by rw [HG.out, hk2, List.drop_length]; rfl
      have N : Hid (RF = 0 ∧ RL = ldG lo hi (List.replicate M 0) L) := Lib.hid (by
        have e : RF = 0 := by rw [EF.out, G0]
        exact ⟨e, by rw [EL.out, if_pos e]⟩)
      have O9 : Hid (Wr w.heap.size wr (.slice (some ⟨g, 0, none⟩) M M) RL) := Lib.hid (by
        have o := HO.out
        rw [hk2, List.take_length, ← N.out.2] at o
        have ln : RL.length = M := by rw [N.out.2, ldG_len, List.length_replicate]
        unfold Wr
        rw [ln]
        exact o)
      clear q1 q2 q3 q4 q5 q6 hk2 G0
      go_wp2_with fail
      go_ret2
      exact ⟨_, by rw [N.out.1]; rfl, O9.out, BW.out⟩
    obtain ⟨b, off, ea, _, bq, hr, hE⟩ := evl_at (HL.out.on BW.out) hlt
    subst ea
    have SG := Lib.hid (teG_step evF hlt)
    have SL := Lib.hid (ldG_step lo hi (List.replicate M 0) L k hlt)
    have LN : (ldG lo hi (List.replicate M 0) (L.take k)).length = M := by rw [ldG_len, List.length_replicate]
    generalize L[k] = X at hr hE SG SL
    obtain ⟨e, s⟩ := X
    dsimp only at hE SG SL
    have NO : Hid (¬ evF e = 0 → RF = evF e ∧ RL = []) := Lib.hid (fun q => by
      have h9 : teG evF L = evF e := by rw [HG.out, SG.out, if_neg q]
      have e1 : RF = evF e := by rw [EF.out, h9]
      exact ⟨e1, by rw [EL.out, e1, if_neg q]⟩)
    have GN : Hid (evF e = 0 → teG evF L = teG evF (L.drop (k + 1))) := Lib.hid (fun q => by rw [HG.out, SG.out, if_pos q])
    have OC : Hid ((ecells e s).all (fun x => x.oneCell') = true) := Lib.hid (evB_one hE)
    have HR := Lib.hid hr
    have HV := Lib.hid hE
    have HTw := Lib.hid (HT.out.below BW.out)
    generalize ldG lo hi (List.replicate M 0) (L.take k) = l0 at HO HLB SL LN
    clear hr hE SG HG q2 q3
    go_upto_region 15 with (first | (refine evr_load ?a1 (.tmp 53) ?a2 b (off + k * 17) e s ?a3 HR.out ?a4; (case a1 => rfl); (case a2 => rfl); (case a3 => rfl)) | (refine ev_store ?h1 (.tmp 15) (.tmp 54) ?h2 wr.heap.size _ _ ?h3 rfl e s ?h4 ?h5 ?h6 ?h7; (case h1 => rfl); (case h2 => rfl); (case h3 => rfl); (case h4 => exact OC.out); (case h5 => rfl); (case h6 => rfl); intro W5 r2 b2; have Q5 := Lib.hid (And.intro r2 b2); clear r2 b2))
    have c5 := (Q5.out.2.cell (p := ⟨bb, 0, none⟩) cbl).trans cb
    have c5l := ecell_in c5
    have V5 := Lib.hid (HV.out.on Q5.out.2)
    by_cases he : evF e = 0
    case neg =>
      have KR := real_no e s lo hi W5 V5.out he
      have N := Lib.hid (NO.out he)
      have H1 := Lib.hid he
      rw [Bz.fault_not he, HHI.out, HLO.out] at KR
      have KH := Lib.hid KR
      have B5 := Lib.hid (BW.out.trans (Q5.out.2.mono BW.out.size))
      clear KR he NO GN
      go_wp2_with (refine ev_load ?j1 (.tmp 15) ?j2 wr.heap.size e s ?j3 Q5.out.1.1 ?j4; (case j1 => rfl); (case j2 => rfl); (case j3 => rfl))
      refine KH.out.mono ?_
      rintro y w6 ⟨rfl, hb6⟩
      have B6 := Lib.hid (B5.out.trans (hb6.mono B5.out.size))
      clear hb6 KH c5 c5l
      go_wp2
      go_ret2
      exact ⟨_, by rw [N.out.1, Bz.fault_not H1.out]; rfl, by rw [N.out.2]; exact Wr.nil _ _, B6.out⟩
    have KR := real_any e s lo hi W5 V5.out (HTw.out.below Q5.out.2) he
    have G2 := Lib.hid (GN.out he)
    have EE : Hid (evC lo hi e = (mom e (loE lo) (hiE hi)).map (·.2)) := Lib.hid rfl
    have CM := Lib.hid (fun c h => CT.out c e he h)
    have CN := evC_len (lo := lo) (hi := hi) he
    generalize mom e (loE lo) (hiE hi) = ML9 at KR EE
    generalize evC lo hi e = C9 at EE CM CN SL
    have EQ := EE.out
    subst EQ
    rw [HHI.out, HLO.out] at KR
    have KH := Lib.hid KR
    clear KR he NO GN EE
    go_wp2_with (refine ev_load (by rfl) (.tmp 15) (by rfl) wr.heap.size e s (by rfl) Q5.out.1.1 ?_)
    refine KH.out.mono ?_
    rintro y w6 ⟨u6, rfl, ho6, hb6⟩
    obtain ⟨pa, pc, eu, hc⟩ := Zo.own_prs ho6
    subst eu
    have HC := Lib.hid hc
    have ws := HA.out.size
    have wq := Q5.out.2.size
    have PG : Hid (∀ pb po, pa = some ⟨pb, po, none⟩ → pb ≠ g) := Lib.hid (fun pb po q => by
      rcases ho6.2 with ⟨z, _⟩ | ⟨g', cap', cur, z, hb', _⟩
      · rw [q] at z; cases z
      · rw [q] at z
        obtain ⟨⟨rfl, _⟩, _⟩ : (pb = g' ∧ po = 0) ∧ pc = cap' := by simpa using z
        omega)
    have b6 := Q5.out.2.trans (hb6.mono Q5.out.2.size)
    have A6 := Lib.hid (HA.out.trans (apt_below g b6))
    have O6 := Lib.hid (ow_below HO.out b6)
    have C6 := Lib.hid (And.intro ((b6.cell (p := ⟨bl, 0, none⟩) cll).trans cl) ((b6.cell (p := ⟨bb, 0, none⟩) cbl).trans cb))
    have LBL : Hid (bl < w6.heap.size ∧ bb < w6.heap.size ∧ bl ≠ g ∧ bb ≠ g) := Lib.hid ⟨by have := b6.size; omega, by have := b6.size; omega, by omega, by omega⟩
    clear ho6 hb6 hc b6 KH V5 c5 c5l cl cb cll cbl HA HO Q5 HV HR OC q1 q4 q5 q6 ws wq BW HTw
    rw [List.length_map] at CN
    go_wp2_with fail
    go_loopw [71, 19] (fun jv _ wx => ∃ j : Nat, j ≤ ML9.length ∧ jv = .int .i64 j ∧ Hid (Apt g w6 wx) ∧ Hid (wx.ownsRow w.heap.size 3 1 (.slice (some ⟨g, 0, none⟩) M M) M (nums (cntL lo l0 ((ML9.map (·.2)).take j)))) ∧ Hid (Lb (200200 * k + j) (cntL lo l0 ((ML9.map (·.2)).take j)))) (fun jv _ _ => ML9.length - (intOf jv).toNat)
    case atStart => exact ⟨0, Nat.zero_le _, rfl, Lib.hid (Apt.refl _ _), O6, HLB⟩
    case round =>
      obtain ⟨j, hj, rfl, HAx, HOx, HLx⟩ := hrel
      by_cases hlj : j < ML9.length
      case neg =>
        have hj2 : j = ML9.length := by omega
        have TK : (ML9.map (·.2)).take j = ML9.map (·.2) := by rw [hj2, ← List.length_map (f := fun x : Int × Int => x.2), List.take_length]
        rw [TK, ← SL.out] at HOx HLx
        have AX := Lib.hid (A6.out.trans HAx.out)
        have LX : Hid (Lb (200200 * (k + 1)) (ldG lo hi (List.replicate M 0) (L.take (k + 1)))) := Lib.hid (HLx.out.mono (by omega))
        clear TK
        go_wp2_with fail
        go_roundw
        case rel => exact ⟨k + 1, by omega, by go_num, AX, HOx, LX, G2⟩
        case measure => simp [intOf]; omega
      rcases HC.out with hc | ⟨pb, po, rfl, hc⟩
      · rw [hc] at hlj; simp at hlj
      obtain ⟨k0, k1⟩ := hc j hlj
      have ne := PG.out pb po rfl
      have x0 := (HAx.out.cell (p := ⟨pb, po + j * 2, none⟩) (ecell_in k0) ne).trans k0
      have x1 := (HAx.out.cell (p := ⟨pb, po + j * 2 + 1, none⟩) (ecell_in k1) ne).trans k1
      have xl := ecell_in x0
      obtain ⟨l1, l2, l3, l4⟩ := LBL.out
      have y0 := (HAx.out.cell (p := ⟨bl, 0, none⟩) l1 l3).trans C6.out.1
      have y1 := (HAx.out.cell (p := ⟨bb, 0, none⟩) l2 l4).trans C6.out.2
      have hm : (ML9.map (·.2)).getD j 0 = (ML9.getD j (0, 0)).2 := by
        rw [List.getD_eq_getElem?_getD, List.getElem?_map, List.getD_eq_getElem?_getD, List.getElem?_eq_getElem hlj]
        rfl
      have hin : (ML9.getD j (0, 0)).2 ∈ ML9.map (·.2) := by
        rw [List.getD_eq_getElem?_getD, List.getElem?_eq_getElem hlj]
        exact List.mem_map.2 ⟨_, List.getElem_mem hlj, rfl⟩
      have SC := Lib.hid (cntL_step lo (ML9.map (·.2)) l0 j (by rw [List.length_map]; exact hlj))
      rw [hm] at SC
      obtain ⟨m1, m2, m3⟩ := CM.out _ hin
      have LC : (cntL lo l0 ((ML9.map (·.2)).take j)).length = M := by rw [cntL_len]; exact LN
      generalize cntL lo l0 ((ML9.map (·.2)).take j) = lc at HOx HLx SC LC
      generalize ML9.getD j (0, 0) = X at x0 x1 SC m1 m2 m3
      obtain ⟨xa, c⟩ := X
      dsimp only at x0 x1 SC m1 m2 m3
      have b7 := below_one wr (.cells #[.int .i64 xa, .int .i64 c] 112)
      have t0 : (wr.alloc (.cells #[.int .i64 xa, .int .i64 c] 112)).cell? ⟨wr.heap.size, 0, none⟩ = some (.int .i64 xa) ∧ (wr.alloc (.cells #[.int .i64 xa, .int .i64 c] 112)).cell? ⟨wr.heap.size, 1, none⟩ = some (.int .i64 c) := by constructor <;> simp
      obtain ⟨W7, hW7⟩ : ∃ W7, W7 = wr.alloc (.cells #[.int .i64 xa, .int .i64 c] 112) := ⟨_, rfl⟩
      rw [← hW7] at b7 t0
      have HW7 := Lib.hid hW7
      obtain ⟨kk, hkk⟩ : ∃ kk : Nat, (c - lo) / 1440 = (kk : Int) := ⟨((c - lo) / 1440).toNat, by omega⟩
      have lb := HLx.out kk
      have CK := cnt_any g bl bb M w.heap.size lo c kk lc W7 ((b7.cell (p := ⟨bl, 0, none⟩) (Nat.lt_of_lt_of_le l1 HAx.out.size)).trans y0) (by rw [HLO.out]; exact (b7.cell (p := ⟨bb, 0, none⟩) (Nat.lt_of_lt_of_le l2 HAx.out.size)).trans y1) (ow_below HOx.out b7) LC MB.1 m1 (by have := MB.2.1; omega) hkk (by omega) (by omega) ML
      have CH := Lib.hid CK
      have A7 := Lib.hid (HAx.out.trans (apt_below g b7))
      have O7 := Lib.hid (ow_below HOx.out b7)
      have LX : Hid (Lb (200200 * k + (j + 1)) (cntL lo l0 ((ML9.map (·.2)).take (j + 1)))) := Lib.hid (by rw [SC.out]; exact HLx.out.one lo c)
      have SS : Hid (cntL lo l0 ((ML9.map (·.2)).take (j + 1)) = lc.set kk (lc.getD kk 0 + 1)) := Lib.hid (by rw [SC.out]; unfold cnt1; rw [hkk, Int.toNat_natCast])
      clear k0 k1 hc hm hin hW7 b7 CK lb y0 y1 m1 m2 m3 l1 l2 l3 l4 ne hkk HAx HOx HLx SC LC
      go_upto_region 21 with fail
      rw [← HW7.out]
      clear HW7 x0 x1 xl
      obtain ⟨t1, t2⟩ := t0
      have tl := ecell_in t1
      go_wp2_with fail
      refine CH.out.mono ?_
      rintro y w8 ⟨rfl, rfl⟩
      have A8 := Lib.hid (A7.out.trans (apt_set g kk (.int .i64 (lc.getD kk 0 + 1)) W7))
      have O8 : Hid ((W7.setCell ⟨g, kk, none⟩ (.int .i64 (lc.getD kk 0 + 1))).ownsRow w.heap.size 3 1 (.slice (some ⟨g, 0, none⟩) M M) M (nums (cntL lo l0 ((ML9.map (·.2)).take (j + 1))))) := Lib.hid (by rw [SS.out, nums_set]; exact own_set O7.out kk _)
      clear CH A7 O7 SS t1 t2 tl
      go_wp2_with fail
      go_roundw
      case rel => exact ⟨j + 1, by omega, by go_num, A8, O8, LX⟩
      case measure => simp [intOf]; omega
end Go.Proofs.YtoncfgfjdlgfcaaGreatDoor.Pp
