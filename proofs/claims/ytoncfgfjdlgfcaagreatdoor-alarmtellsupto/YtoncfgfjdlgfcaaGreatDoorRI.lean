/-
  What is proved here: plain facts on the times of Start as the document gathers them.
  What is proved here: what the document's put answers (a contract over the translation).
  What is proved here: what the document's Local and Is answer of an event that is right (contracts over the translation).
-/
import Derived.Test.YtoncfgfjdlgfcaaGreatDoorBV
import Derived.Test.YtoncfgfjdlgfcaaGreatDoorBK
import Derived.Test.YtoncfgfjdlgfcaaGreatDoorBW
import Derived.BigQuiet
import Derived.Deep.Cut
import Derived.Test.YtoncfgfjdlgfcaaGreatDoorBX
import Derived.Test.YtoncfgfjdlgfcaaGreatDoorRefEv4
import Derived.Test.YtoncfgfjdlgfcaaGreatDoorRH
import Derived.Test.YtoncfgfjdlgfcaaGreatDoorRD
import Derived.Test.YtoncfgfjdlgfcaaGreatDoorBF
import Derived.Deep.CutRange
namespace Go.Proofs.YtoncfgfjdlgfcaaGreatDoor
open Go.RowKit Cal Txt

/-- A time of a day. -/
def tmx (st d : Int) : Int := (d - 1) * 1440 + st % 1440
/-- Those of so many days. -/
def tmk (st : Int) (k : Nat) (l : List Int) : List Int := (l.take k).map (tmx st)
theorem tmk_end (st : Int) (l : List Int) : tmk st l.length l = l.map (tmx st) := by unfold tmk; rw [List.take_length]
theorem tmk_snoc {st : Int} {l : List Int} {k : Nat} (h : k < l.length) : tmk st (k + 1) l = tmk st k l ++ [tmx st (l.getD k 0)] := by
  unfold tmk
  rw [List.take_succ_eq_append_getElem h, List.map_append, List.getD_eq_getElem?_getD, List.getElem?_eq_getElem h]
  rfl
theorem tq_cases (t : Int) : (0 ≤ t ∧ t.tdiv 1440 = t / 1440) ∨ (t < 0 ∧ t.tdiv 1440 = -((-t) / 1440)) := by
  rcases (by omega : t < 0 ∨ 0 ≤ t) with h | h
  · refine Or.inr ⟨h, ?_⟩
    have := Int.neg_tdiv (-t) 1440
    rw [Int.neg_neg] at this
    rw [this, Int.tdiv_eq_ediv_of_nonneg (by omega)]
  · exact Or.inl ⟨h, Int.tdiv_eq_ediv_of_nonneg h⟩
/-- The days, as the document has them, however far. -/
theorem dsq_wide {r : Rl} {s t : Int} (h : sf r s = 0) : dsq r s t 200000 = (DAYS r s).filter (fun x => decide (x ≤ t)) := by
  rcases (by omega : 109573 < t ∨ t ≤ 109573) with q | q
  · rw [dsq_far h (by omega), dsq_much h (Int.le_refl _)]
    refine List.filter_congr (fun x hx => ?_)
    have := DAYS_in h hx
    rw [decide_eq_true (by omega), decide_eq_true (by omega)]
  · exact dsq_much h q
/-- The times of Start, as the document gathers them. -/
def dbD (e : Evt) (t : Int) : List Int := dsq e.rule (e.start / 1440 + 1) (t.tdiv 1440 + 1) 200000
def dbL (e : Evt) (t : Int) : List Int := if e.rep = true then (dbD e t).map (tmx e.start) else [e.start]
theorem ev_sf {e : Evt} (h : evF e = 0) (hr : e.rep = true) : sf e.rule (e.start / 1440 + 1) = 0 ∧ rf e.rule = 0 := by
  have hs := (evF_lens h).2.2.1
  have h3 := (evF_lens h).2.1
  unfold ruF at h3
  rw [if_pos hr] at h3
  have := sf_ev h3 hs
  rw [(dyo_ok hs).1] at this
  exact ⟨this, h3⟩
theorem dbD_eq {e : Evt} {t : Int} (h : evF e = 0) (hr : e.rep = true) : dbD e t = (DAYS e.rule (e.start / 1440 + 1)).filter (fun x => decide (x ≤ t.tdiv 1440 + 1)) := dsq_wide (ev_sf h hr).1
theorem dbD_in {e : Evt} {t x : Int} (h : evF e = 0) (hr : e.rep = true) (hx : x ∈ dbD e t) : 1 ≤ x ∧ x ≤ 109573 := by
  rw [dbD_eq h hr] at hx
  have := DAYS_in (ev_sf h hr).1 (List.mem_filter.1 hx).1
  have := (of_decide_eq_true (evF_lens h).2.2.1).1
  omega
theorem dbD_len {e : Evt} {t : Int} (h : evF e = 0) (hr : e.rep = true) : (dbD e t).length ≤ 109573 := by
  rw [dbD_eq h hr]
  exact Nat.le_trans (List.length_filter_le _ _) (DAYS_len (ev_sf h hr).1)
theorem dbL_rise {e : Evt} {t : Int} (h : evF e = 0) : (dbL e t).Pairwise (· < ·) := by
  unfold dbL
  split
  · rename_i hr
    rw [dbD_eq h hr, List.pairwise_map]
    exact ((DAYS_rise _ _).filter _).imp (fun q => by unfold tmx; omega)
  · simp
theorem dbL_len {e : Evt} {t : Int} (h : evF e = 0) : (dbL e t).length ≤ 109573 := by
  unfold dbL
  split
  · rename_i hr
    rw [List.length_map]; exact dbD_len h hr
  · simp
theorem tmx_tmd {e : Evt} (h : evF e = 0) (n : Int) : tmx e.start n = tmd e.start n := by
  unfold tmx tmd
  rw [(dyo_ok (evF_lens h).2.2.1).1]
  omega
theorem dbL_mem {e : Evt} {t x : Int} (h : evF e = 0) (hx : x ≤ t) : x ∈ dbL e t ↔ isS e x := by
  have hs := (evF_lens h).2.2.1
  unfold dbL isS
  split
  · rename_i hr
    rw [dbD_eq h hr, List.mem_map, (dyo_ok hs).1]
    constructor
    · rintro ⟨n, hn, rfl⟩
      exact ⟨n, (List.mem_filter.1 hn).1, tmx_tmd h n⟩
    · rintro ⟨n, hn, e1⟩
      refine ⟨n, List.mem_filter.2 ⟨hn, ?_⟩, by rw [e1]; exact tmx_tmd h n⟩
      have d := DAYS_in (ev_sf h hr).1 hn
      have s1 := (of_decide_eq_true hs).1
      rw [← tmx_tmd h n] at e1
      unfold tmx at e1
      simp only [decide_eq_true_eq]
      rcases tq_cases t with ⟨a, b⟩ | ⟨a, b⟩
      · rw [b]; omega
      · omega
  · simp
/-- The document's list. -/
def dcL (e : Evt) (fr t : Int) : List Int := evL (dbL e t) e fr t
theorem dcL_mem {e : Evt} {fr t x : Int} (h : evF e = 0) : x ∈ dcL e fr t ↔ ((isS e x ∨ x ∈ e.more) ∧ x ∉ e.nots) ∧ fr ≤ x ∧ x ≤ t := by
  unfold dcL
  rw [evL_mem]
  constructor
  · rintro ⟨a, b, c, d⟩
    exact ⟨⟨a.imp (fun q => (dbL_mem h d).1 q) id, b⟩, c, d⟩
  · rintro ⟨⟨a, b⟩, c, d⟩
    exact ⟨a.imp (fun q => (dbL_mem h d).2 q) id, b, c, d⟩
theorem dcL_rise (e : Evt) (fr t : Int) : (dcL e fr t).Pairwise (· < ·) := evL_rise _ _ _ _
/-- Of times it is the program's. -/
theorem dcL_same {e : Evt} {fr t : Int} (h : evF e = 0) (hf : ist fr = true) (ht : ist t = true) : dcL e fr t = evL (stL e fr t) e fr t := by
  refine rise_ext2 (dcL_rise _ _ _) (evL_rise _ _ _ _) (fun x => ?_)
  rw [dcL_mem h, evL_mem]
  constructor
  · rintro ⟨⟨a, b⟩, c, d⟩
    exact ⟨a.imp (fun q => (stL_mem h hf ht c d).2 q) id, b, c, d⟩
  · rintro ⟨a, b, c, d⟩
    exact ⟨⟨a.imp (fun q => (stL_mem h hf ht c d).1 q) id, b⟩, c, d⟩
/-- How far numbers have been put into the list. -/
def PutI (b m : List Int) (i : Nat) (p : List Int) : Prop := p.Pairwise (· < ·) ∧ (∀ x, x ∈ p ↔ x ∈ b ∨ x ∈ m.take i) ∧ p.length ≤ b.length + i
theorem PutI.start {b m : List Int} (h : b.Pairwise (· < ·)) : PutI b m 0 b := ⟨h, fun x => by simp, by omega⟩
/-- What is left of it. -/
def kee (e : Evt) (fr t x : Int) : Bool := !(e.nots.contains x) && (decide (fr ≤ x) && decide (x ≤ t))
def flt (e : Evt) (fr t : Int) (i : Nat) (p : List Int) : List Int := (p.take i).filter (kee e fr t)
theorem flt_len (e : Evt) (fr t : Int) (i : Nat) (p : List Int) : (flt e fr t i p).length ≤ i := by
  unfold flt
  have h1 := List.length_filter_le (kee e fr t) (p.take i)
  rw [List.length_take] at h1
  omega
theorem flt_yes {e : Evt} {fr t : Int} {i : Nat} {p : List Int} (h : i < p.length) (hk : kee e fr t (p.getD i 0) = true) : flt e fr t (i + 1) p = flt e fr t i p ++ [p.getD i 0] := by
  unfold flt
  rw [List.take_succ_eq_append_getElem h, List.filter_append]
  rw [List.getD_eq_getElem?_getD, List.getElem?_eq_getElem h] at hk ⊢
  have hk' : kee e fr t p[i] = true := hk
  simp [hk']
theorem flt_no {e : Evt} {fr t : Int} {i : Nat} {p : List Int} (h : i < p.length) (hk : kee e fr t (p.getD i 0) = false) : flt e fr t (i + 1) p = flt e fr t i p := by
  unfold flt
  rw [List.take_succ_eq_append_getElem h, List.filter_append]
  rw [List.getD_eq_getElem?_getD, List.getElem?_eq_getElem h] at hk
  have hk' : kee e fr t p[i] = false := hk
  simp [hk']
theorem flt_end {e : Evt} {fr t : Int} {p : List Int} (hp : PutI (dbL e t) e.more e.more.length p) : flt e fr t p.length p = dcL e fr t := by
  obtain ⟨h1, h2, _⟩ := hp
  unfold flt
  rw [List.take_length]
  refine rise_ext2 (h1.filter _) (dcL_rise _ _ _) (fun x => ?_)
  unfold dcL
  rw [List.mem_filter, evL_mem, h2 x, List.take_length]
  unfold kee
  simp
end Go.Proofs.YtoncfgfjdlgfcaaGreatDoor
namespace Go.Proofs.YtoncfgfjdlgfcaaGreatDoor
open Go.RowKit Cal Txt

/-- A list with a number put into it. -/
def PutR (l : List Int) (n : Int) (r : List Int) : Prop := (l.Pairwise (· < ·) → r.Pairwise (· < ·) ∧ ∀ x, x ∈ r ↔ x ∈ l ∨ x = n) ∧ r.length ≤ l.length + 1
theorem put_same {l : List Int} {n : Int} (h : n ∈ l) : PutR l n l :=
  ⟨fun hl => ⟨hl, fun x => ⟨Or.inl, fun q => q.elim id (fun e => e ▸ h)⟩⟩, by omega⟩
theorem put_new {l : List Int} {n : Int} {k : Nat} (hk : k ≤ l.length) (h1 : ∀ i, k ≤ i → i < l.length → n < l.getD i 0) (h2 : 0 < k → l.getD (k - 1) 0 < n) : PutR l n (l.take k ++ (n :: l.drop k)) := by
  refine ⟨fun hl => ⟨?_, fun x => ?_⟩, by simp; omega⟩
  · have ht : ∀ x ∈ l.take k, x < n := fun x hx => by
      obtain ⟨i, hi, e⟩ := List.getElem_of_mem hx
      rw [List.length_take] at hi
      rw [List.getElem_take] at e
      have q := h2 (by omega)
      rw [List.getD_eq_getElem?_getD, List.getElem?_eq_getElem (by omega)] at q
      simp only [Option.getD_some] at q
      rcases Nat.lt_or_ge i (k - 1) with z | z
      · have := List.pairwise_iff_getElem.1 hl i (k - 1) (by omega) (by omega) z
        omega
      · have : i = k - 1 := by omega
        subst this
        omega
    have hd : ∀ x ∈ l.drop k, n < x := fun x hx => by
      obtain ⟨i, hi, e⟩ := List.getElem_of_mem hx
      rw [List.length_drop] at hi
      rw [List.getElem_drop] at e
      have q := h1 (k + i) (by omega) (by omega)
      rw [List.getD_eq_getElem?_getD, List.getElem?_eq_getElem (by omega)] at q
      simp only [Option.getD_some] at q
      omega
    refine List.pairwise_append.2 ⟨hl.take, List.pairwise_cons.2 ⟨hd, hl.drop⟩, fun x hx y hy => ?_⟩
    rcases List.mem_cons.1 hy with e | e
    · rw [e]; exact ht x hx
    · have := ht x hx; have := hd y e; omega
  · rw [List.mem_append, List.mem_cons]
    constructor
    · rintro (q | q | q)
      · exact Or.inl (List.mem_of_mem_take q)
      · exact Or.inr q
      · exact Or.inl (List.mem_of_mem_drop q)
    · rintro (q | q)
      · rw [← List.take_append_drop k l] at q
        rcases List.mem_append.1 q with z | z
        · exact Or.inl z
        · exact Or.inr (Or.inr z)
      · exact Or.inr (Or.inl q)
/-- A slice that is nil, or stands in a block, with room enough. -/
def Frl (v : Value) (l : List Int) : Prop := (v = .slice none 0 0 ∧ l = []) ∨ ∃ b off cap, v = .slice (some ⟨b, off, none⟩) l.length cap ∧ l.length ≤ cap
/-- What put answers. -/
def PutA (w : World) (l : List Int) (n : Int) (e : Ending) (w' : World) : Prop := ∃ u r, e = .returned u ∧ Ints w' u r ∧ Frl u r ∧ PutR l n r ∧ Below w.heap.size w w'
theorem own_frl {w : World} {n0 : Nat} {v : Value} {l : List Int} (h : w.ownsRow n0 3 1 v l.length (nums l)) : Frl v l := by
  rcases own_hol h with ⟨q, q2⟩ | ⟨g, cap, q, _, hc, _, _⟩
  · exact Or.inl ⟨q, q2⟩
  · exact Or.inr ⟨g, 0, cap, q, hc⟩
theorem ints_take {w : World} {a : Option Addr} {l : List Int} {cap k : Nat} (h : Ints w (.slice a l.length cap) l) (hk : k ≤ l.length) : Ints w (.slice a k cap) (l.take k) := by
  obtain ⟨a', c', e, hc⟩ := h
  obtain ⟨rfl, rfl⟩ : a = a' ∧ cap = c' := by simpa using e
  refine ⟨a, cap, by rw [List.length_take, Nat.min_eq_left hk], ?_⟩
  rcases hc with rfl | ⟨b, off, ea, hc⟩
  · exact Or.inl (by simp)
  · refine Or.inr ⟨b, off, ea, fun i hi => ?_⟩
    rw [List.length_take] at hi
    rw [hc i (by omega), List.getD_eq_getElem?_getD, List.getD_eq_getElem?_getD, List.getElem?_take, if_pos (by omega)]
theorem app_nil {w : World} {n0 : Nat} {v : Value} {l : List Int} (h : w.ownsRow n0 3 1 v l.length (nums l)) (a : Option Addr) (c : Nat) (ty : TypeId) : (Builtin.append_ #[26, 26] ty #[v, .slice a 0 c]).run Tryz.prog w = .ok v w := by
  obtain ⟨i0, hi, hz0, hz1, hz2⟩ := info_parts info_ev_int
  rcases a with _ | ad
  · rcases h.2 with ⟨rfl, h0⟩ | ⟨g, cp, cur, rfl, _, hg, hnc, _, _, _⟩
    · simp [Builtin.append_, run_underlying Tryz.underlying26, sizeOf, typeInfo, hi, Builtin.lenOf, Builtin.firstCells]
    · simp [Builtin.append_, run_underlying Tryz.underlying26, sizeOf, typeInfo, hi, Builtin.lenOf, Builtin.firstCells, hnc, storeCells]
  · rcases h.2 with ⟨rfl, h0⟩ | ⟨g, cp, cur, rfl, _, hg, hnc, _, _, _⟩
    · simp [Builtin.append_, run_underlying Tryz.underlying26, sizeOf, typeInfo, hi, Builtin.lenOf, Builtin.firstCells, loadCells, loadCellsFrom]
    · simp [Builtin.append_, run_underlying Tryz.underlying26, sizeOf, typeInfo, hi, Builtin.lenOf, Builtin.firstCells, hnc, storeCells, loadCells, loadCellsFrom]
theorem put_one (w : World) (n : Int) : Ints (w.alloc (.cells #[.int .i64 n] 3)) (.slice (some ⟨w.heap.size, 0, none⟩) 1 1) [n] :=
  ⟨_, _, rfl, Or.inr ⟨w.heap.size, 0, rfl, fun i hi => by
    obtain rfl : i = 0 := by simp at hi; omega
    simp⟩⟩
theorem ints_drop {w : World} {b off : Nat} {l : List Int} {cap k : Nat} (h : Ints w (.slice (some ⟨b, off, none⟩) l.length cap) l) (hk : k ≤ l.length) (hc : l.length ≤ cap) : Ints w (.slice (if cap = k then some ⟨b, off, none⟩ else some ⟨b, off + k, none⟩) (l.length - k) (cap - k)) (l.drop k) := by
  obtain ⟨a', c', e, hcell⟩ := h
  obtain ⟨rfl, rfl⟩ : some (⟨b, off, none⟩ : Addr) = a' ∧ cap = c' := by simpa using e
  refine ⟨_, _, by rw [List.length_drop], ?_⟩
  by_cases q : cap = k
  · exact Or.inl (List.drop_eq_nil_of_le (by omega))
  · rw [if_neg q]
    rcases hcell with rfl | ⟨b', off', ea, hcell⟩
    · exact Or.inl (by simp)
    · obtain ⟨rfl, rfl⟩ : b = b' ∧ off = off' := by simpa using ea
      refine Or.inr ⟨b, off + k, rfl, fun i hi => ?_⟩
      rw [List.length_drop] at hi
      have := hcell (k + i) (by omega)
      rw [← Nat.add_assoc] at this
      rw [this, List.getD_eq_getElem?_getD, List.getD_eq_getElem?_getD, List.getElem?_drop]
set_option maxRecDepth 100000 in
set_option maxHeartbeats 4000000 in
theorem refPut_any (v : Value) (l : List Int) (n : Int) (w : World) (hv : Ints w v l) (hf : Frl v l) (hl : l.length ≤ 900000) :
    Calls Tryz.prog 58 #[v, .int .i64 n] w (PutA w l n) := by
  rcases hf with ⟨rfl, rfl⟩ | ⟨b, off, cap, rfl, lc⟩
  · obtain ⟨v3, w3, ap2, o2, b2⟩ := app_any (w := w.alloc (.cells #[.int .i64 n] 3)) (n0 := w.heap.size) (l := []) (mo := [n]) (World.ownsRow_nil _ w.heap.size 3 1) (put_one w n) (by rw [World.size_alloc]; omega) (by simp)
    have AP1 := Lib.hid (app_nil (w := w) (n0 := w.heap.size) (l := []) (World.ownsRow_nil _ w.heap.size 3 1) none 0)
    have AP2 := Lib.hid ap2
    have AP3 := Lib.hid (app_nil o2 none 0)
    have ZZ := Lib.hid (show PutA w [] n (.returned v3) w3 from ⟨v3, _, rfl, ow_ints o2, own_frl o2, put_new (l := []) (k := 0) (Nat.le_refl _) (fun i _ h => by simp at h) (fun q => by omega), (((Below.refl _ _).alloc (Nat.le_refl _) _).trans b2)⟩)
    clear ap2 o2 b2 hv
    go_enter Tryz.func58, Tryz.ntmps58
    go_wp2_with fail
    go_loop [5] (fun i => i = .int .i64 0) (fun _ => 0)
    case atStart => rfl
    case round =>
      subst hrel
      go_upto_region 8 with (at_builtin; refine wpList_app rfl _ _ 26 rfl _ _ _ _ rfl rfl AP1.out ?_)
      go_upto_region 9 with (at_builtin; refine wpList_app rfl _ _ 26 rfl _ _ _ _ rfl rfl AP2.out ?_)
      go_wp2_with (at_builtin; refine wpList_app rfl _ _ 26 rfl _ _ _ _ rfl rfl AP3.out ?_)
      go_ret
      exact ZZ.out
  have HV := Lib.hid hv
  have HCP : Hid (Frl (.slice (some ⟨b, off, none⟩) l.length cap) l) := Lib.hid (Or.inr ⟨b, off, cap, rfl, lc⟩)
  have HC : Hid (∀ i, i < l.length → w.cell? ⟨b, off + i, none⟩ = some (.int .i64 (l.getD i 0))) := Lib.hid (fun i hi => by
    obtain ⟨a', c', e, hc⟩ := hv
    obtain ⟨rfl, rfl⟩ : some (⟨b, off, none⟩ : Addr) = a' ∧ cap = c' := by simpa using e
    rcases hc with hc | ⟨b', off', ea, hc⟩
    · rw [hc] at hi; simp at hi
    · obtain ⟨rfl, rfl⟩ : b = b' ∧ off = off' := by simpa using ea
      exact hc i hi)
  clear hv
  go_enter Tryz.func58, Tryz.ntmps58
  go_wp2_with fail
  go_loop [5] (fun i => ∃ k : Nat, k ≤ l.length ∧ i = .int .i64 k ∧ ∀ i, k ≤ i → i < l.length → n < l.getD i 0) (fun i => (intOf i).toNat)
  case atStart => exact ⟨l.length, Nat.le_refl _, rfl, fun i h1 h2 => by omega⟩
  case round =>
    obtain ⟨k, hk, rfl, hF⟩ := hrel
    have HF := Lib.hid hF
    clear hF
    rcases Nat.eq_zero_or_pos k with h0 | h0
    · subst h0
      have PR : Hid (PutR l n (l.take 0 ++ (n :: l.drop 0))) := Lib.hid (put_new (Nat.zero_le _) (fun i _ h => HF.out i (Nat.zero_le _) h) (fun q => by omega))
      obtain ⟨v2, w2, ap1, o1, b1⟩ := app_any (l := []) (mo := l.take 0) (World.ownsRow_nil w w.heap.size 3 1) (ints_take HV.out (Nat.zero_le _)) (Nat.le_refl _) (by simp)
      rw [List.nil_append] at o1
      have z2 := b1.size
      obtain ⟨v3, w3, ap2, o2, b2⟩ := app_any (l := l.take 0) (mo := [n]) (o1.alloc (.cells #[.int .i64 n] 3)) (put_one w2 n) (Nat.le_trans z2 (by rw [World.size_alloc]; omega)) (by simp)
      have B2 : Below w.heap.size w w3 := (b1.alloc z2 _).trans b2
      have ID : Ints w3 (.slice (some ⟨b, off, none⟩) l.length cap) (l.drop 0) := by rw [List.drop_zero]; exact HV.out.on B2
      obtain ⟨v4, w4, ap3, o3, b3⟩ := app_any (l := l.take 0 ++ [n]) (mo := l.drop 0) o2 ID B2.size (by simp; omega)
      rw [List.append_assoc, List.singleton_append] at o3
      have AP1 := Lib.hid ap1
      have AP2 := Lib.hid ap2
      have AP3 := Lib.hid ap3
      have ZZ := Lib.hid (show PutA w l n (.returned v4) w4 from ⟨v4, _, rfl, ow_ints o3, own_frl o3, PR.out, B2.trans b3⟩)
      clear ap1 ap2 ap3 o1 o2 o3 b1 b2 b3 B2 ID PR z2 HF
      go_wp2_with (at_builtin; first | refine wpList_app rfl _ _ 26 rfl _ _ _ _ rfl rfl AP1.out ?_ | refine wpList_app rfl _ _ 26 rfl _ _ _ _ rfl rfl AP2.out ?_ | refine wpList_app rfl _ _ 26 rfl _ _ _ _ rfl rfl AP3.out ?_)
      all_goals
        go_ret
        exact ZZ.out
    · obtain ⟨j, rfl⟩ : ∃ j, k = j + 1 := ⟨k - 1, by omega⟩
      have ck := HC.out j (by omega)
      have HX : Hid (∀ x, x = l.getD j 0 → n < x → ∀ i, j ≤ i → i < l.length → n < l.getD i 0) := Lib.hid (fun x e q i h1 h2 => by
        rcases Nat.lt_or_ge j i with z | z
        · exact HF.out i (by omega) h2
        · rw [show i = j by omega, ← e]; exact q)
      obtain ⟨x, hx⟩ : ∃ x, x = l.getD j 0 := ⟨_, rfl⟩
      rw [← hx] at ck
      have HXX := Lib.hid hx
      have i1 : (0 : Int) ≤ ((j + 1 : Nat) : Int) - 1 := by omega
      have i2 : ((j + 1 : Nat) : Int) - 1 < (l.length : Int) := by omega
      have i3 : (((j + 1 : Nat) : Int) - 1).toNat = j := by omega
      clear hx
      by_cases hq : n < x
      · have N1 := Lib.hid (HX.out x HXX.out hq)
        go_wp2
        go_round
        case rel => exact ⟨j, by omega, by go_num, N1.out⟩
        case measure => simp [intOf]
      · rcases he : (x == n) with _ | _
        · have PR : Hid (PutR l n (l.take (j + 1) ++ (n :: l.drop (j + 1)))) := Lib.hid (put_new (by omega) HF.out (fun _ => by
            have e := beq_eq_false_iff_ne.1 he
            rw [Nat.add_sub_cancel, ← HXX.out]; omega))
          obtain ⟨v2, w2, ap1, o1, b1⟩ := app_any (l := []) (mo := l.take (j + 1)) (World.ownsRow_nil w w.heap.size 3 1) (ints_take HV.out (show j + 1 ≤ l.length by omega)) (Nat.le_refl _) (by simp; omega)
          rw [List.nil_append] at o1
          have z2 := b1.size
          obtain ⟨v3, w3, ap2, o2, b2⟩ := app_any (l := l.take (j + 1)) (mo := [n]) (o1.alloc (.cells #[.int .i64 n] 3)) (put_one w2 n) (Nat.le_trans z2 (by rw [World.size_alloc]; omega)) (by simp; omega)
          have B2 : Below w.heap.size w w3 := (b1.alloc z2 _).trans b2
          obtain ⟨SL, hS⟩ : ∃ SL : Option Addr, SL = if cap = j + 1 then some ⟨b, off, none⟩ else some ⟨b, off + (j + 1), none⟩ := ⟨_, rfl⟩
          have ID : Ints w3 (.slice SL (l.length - (j + 1)) (cap - (j + 1))) (l.drop (j + 1)) := by rw [hS]; exact ints_drop (HV.out.on B2) hk lc
          obtain ⟨v4, w4, ap3, o3, b3⟩ := app_any (l := l.take (j + 1) ++ [n]) (mo := l.drop (j + 1)) o2 ID B2.size (by simp; omega)
          rw [List.append_assoc, List.singleton_append] at o3
          have AP1 := Lib.hid ap1
          have AP2 := Lib.hid ap2
          have AP3 := Lib.hid ap3
          have ZZ := Lib.hid (show PutA w l n (.returned v4) w4 from ⟨v4, _, rfl, ow_ints o3, own_frl o3, PR.out, B2.trans b3⟩)
          have c0 : ¬ l.length < j + 1 := by omega
          have c9 : j + 1 ≤ cap := by omega
          clear ap1 ap2 ap3 o1 o2 o3 b1 b2 b3 B2 ID PR z2
          rcases (by by_cases q : cap = j + 1; exact Or.inl q; exact Or.inr q : cap = j + 1 ∨ ¬ cap = j + 1) with q | q
          · rw [if_pos q] at hS
            subst hS
            go_wp2_with (at_builtin; first | refine wpList_app rfl _ _ 26 rfl _ _ _ _ rfl rfl AP1.out ?_ | refine wpList_app rfl _ _ 26 rfl _ _ _ _ rfl rfl AP2.out ?_ | refine wpList_app rfl _ _ 26 rfl _ _ _ _ rfl rfl AP3.out ?_)
            go_ret
            exact ZZ.out
          · rw [if_neg q] at hS
            subst hS
            go_wp2_with (at_builtin; first | refine wpList_app rfl _ _ 26 rfl _ _ _ _ rfl rfl AP1.out ?_ | refine wpList_app rfl _ _ 26 rfl _ _ _ _ rfl rfl AP2.out ?_ | refine wpList_app rfl _ _ 26 rfl _ _ _ _ rfl rfl AP3.out ?_)
            go_ret
            exact ZZ.out
        · have N1 : Hid (PutR l n l) := Lib.hid (put_same (by
            have e : x = n := by simpa using he
            rw [← e, HXX.out, List.getD_eq_getElem?_getD, List.getElem?_eq_getElem (by omega)]
            exact List.getElem_mem (by omega)))
          go_wp2
          go_ret
          exact ⟨.slice (some ⟨b, off, none⟩) l.length cap, l, rfl, HV.out, HCP.out, N1.out, Below.refl _ _⟩
end Go.Proofs.YtoncfgfjdlgfcaaGreatDoor
namespace Go.Proofs.YtoncfgfjdlgfcaaGreatDoor
open Go.RowKit Cal Txt

theorem PutI.next {b m p r : List Int} {i : Nat} (h : PutI b m i p) (hi : i < m.length) (hr : PutR p (m.getD i 0) r) : PutI b m (i + 1) r := by
  obtain ⟨h1, h2, h3⟩ := h
  obtain ⟨g1, g2⟩ := hr.1 h1
  refine ⟨g1, fun x => ?_, by have := hr.2; omega⟩
  rw [g2 x, h2 x, List.take_succ_eq_append_getElem hi, List.mem_append, List.mem_singleton, List.getD_eq_getElem?_getD, List.getElem?_eq_getElem hi]
  constructor
  · rintro ((q | q) | q)
    · exact Or.inl q
    · exact Or.inr (Or.inl q)
    · exact Or.inr (Or.inr q)
  · rintro (q | q | q)
    · exact Or.inl (Or.inl q)
    · exact Or.inl (Or.inr q)
    · exact Or.inr q
theorem one_news (wa : World) (x : Int) : ∀ j u, [Value.int .i64 x][j]? = some u → ((wa.alloc (.cells #[.int .i64 x] 3)).drew).cell? ((⟨wa.heap.size, 0, none⟩ : Addr).add j) = some u := fun j u hj => by
  match j, hj with
  | 0, hj => simp at hj; subst hj; simp [Addr.add]
theorem raw_tmx {st d : Int} (h1 : 1 ≤ d) (h2 : d ≤ 109573) (s1 : 1 ≤ st) (s2 : st ≤ 157785119) : IntKind.i64.wrap (IntKind.i64.wrap (IntKind.i64.wrap (d - 1) * 1440) + st.tmod 1440) = tmx st d := by
  rw [Int.tmod_eq_emod_of_nonneg (by omega)]
  have e : ∀ n : Int, -9223372036854775808 ≤ n → n ≤ 9223372036854775807 → IntKind.i64.wrap n = n := fun n a b => by rw [IntKind.wrap_i64]; omega
  rw [e (d - 1) (by omega) (by omega), e ((d - 1) * 1440) (by omega) (by omega), e _ (by omega) (by omega)]
  rfl
theorem tmx_bd {st d : Int} (h1 : 1 ≤ d) (h2 : d ≤ 109573) : 0 ≤ tmx st d ∧ tmx st d ≤ 157785119 := by unfold tmx; omega
set_option maxRecDepth 100000 in
set_option maxHeartbeats 8000000 in
theorem refLocal_own (e : Evt) (s : Evs) (fr t : Int) (w : World) (hv : EvB w e s) (h : evF e = 0) (ht : t ≤ 9223372036854775807) (ht2 : -9223372036854775808 ≤ t) :
    Calls Tryz.prog 56 #[.agg (ecells e s), .int .i64 fr, .int .i64 t] w fun x w' => ∃ v, x = .returned v ∧ Ints w' v (dcL e fr t) ∧ Below w.heap.size w w' ∧ Frl v (dcL e fr t) := by
  obtain ⟨i0, hi, hz0, hz1, hz2⟩ := info_parts info_ev_int
  have B0 := (Below.refl w.heap.size w).alloc (Nat.le_refl _) (.cells (ecells e s) 33)
  have R0 := EBox.new w e s 33
  have HV := Lib.hid (fun W (q : Below w.heap.size w W) => hv.on q)
  obtain ⟨W0, hW⟩ : ∃ W0, W0 = w.alloc (.cells (ecells e s) 33) := ⟨_, rfl⟩
  rw [← hW] at B0 R0
  have HW := Lib.hid hW
  have HB := Lib.hid B0
  have HE := Lib.hid R0
  have st1 := (of_decide_eq_true (evF_lens h).2.2.1).1
  have st2 := (of_decide_eq_true (evF_lens h).2.2.1).2
  have H0 := Lib.hid h
  have c2 := R0.1.2.2.1
  have c4 := R0.1.2.2.2.2
  have bx := R0.lt
  clear hv B0 R0 hW h
  go_enter Tryz.func56, Tryz.ntmps56
  go_upto_region 1 with fail
  rw [← HW.out]
  clear HW
  go_upto_if 18 with fail
  clear c2 c4
  have b1 := (Below.refl W0.heap.size W0).alloc (Nat.le_refl _) (.cells #[.int .i64 e.start] 3)
  have P1 := put_one W0 e.start
  obtain ⟨W1, hW⟩ : ∃ W1, W1 = W0.alloc (.cells #[.int .i64 e.start] 3) := ⟨_, rfl⟩
  rw [← hW] at b1 P1 ⊢
  have HP1 := Lib.hid P1
  have B1 := Lib.hid (HB.out.trans (b1.mono HB.out.size))
  have E1 := Lib.hid (HE.out.on b1)
  clear hW b1 HB HE bx P1
  go_cut [7, 8, 9] from 14 to 100 (fun s7 s8 s9 wx => Ints wx s7 (dbL e t) ∧ Frl s7 (dbL e t) ∧ Below w.heap.size w wx ∧ EBox wx w.heap.size e s)
  case first =>
    rcases hr : e.rep with _ | _
    · have EV : Hid (dbL e t = [e.start]) := Lib.hid (if_neg (by rw [hr]; decide))
      go_wp2
      go_meet
      case rel => exact ⟨by rw [EV.out]; exact HP1.out, by rw [EV.out]; exact Or.inr ⟨_, _, 1, rfl, Nat.le_refl _⟩, B1.out, E1.out⟩
    · have EV : Hid (dbL e t = (dbD e t).map (tmx e.start)) := Lib.hid (if_pos hr)
      have s0 := ev_sf H0.out hr
      obtain ⟨_, q1, q2⟩ := sf_ok s0.1
      have wq : wrap64 (t.tdiv 1440 + 1) = t.tdiv 1440 + 1 := by
        rcases tq_cases t with ⟨a, b⟩ | ⟨a, b⟩
        · rw [b]; unfold wrap64; omega
        · rw [b]; unfold wrap64; omega
      have K := Lib.hid (refSeq_far e.rule (rval e s) (e.start / 1440 + 1) (t.tdiv 1440 + 1) 200000 W1 (HV.out _ B1.out).rule s0.2 q1 q2 (by
        rcases tq_cases t with ⟨a, b⟩ | ⟨a, b⟩
        · rw [b]; omega
        · rw [b]; omega) (by omega))
      have DL : (dbD e t).length ≤ 109573 := dbD_len H0.out hr
      have DI := Lib.hid (fun x => dbD_in (t := t) (x := x) H0.out hr)
      have c2 := E1.out.1.2.2.1
      have wl := E1.out.lt
      clear s0 q1 q2
      go_wp2_with (refine ru_load ?j1 (.tmp 19) ?j2 w.heap.size 5 e s ?j3 E1.out.rrange ?j4; (case j1 => rfl); (case j2 => rfl); (case j3 => rfl))
      clear c2 wl
      refine K.out.mono ?_
      rintro x W2 ⟨v2, rfl, hx, hb⟩
      have hx' : Ints W2 v2 (dbD e t) := hx
      have B2 := Lib.hid (B1.out.trans (hb.mono B1.out.size))
      have E2 := Lib.hid (E1.out.on hb)
      have EV2 := Lib.hid (tmk_end e.start (dbD e t))
      generalize dbD e t = DS at hx' DL DI EV EV2
      obtain ⟨qa, qc, rfl, hcc⟩ := hx'
      have HC := Lib.hid hcc
      clear hx hb K hcc B1 E1 HP1 wq
      go_wp2_with fail
      go_loopw [7, 9] (fun lv iv wr => ∃ i : Nat, i ≤ DS.length ∧ iv = .int .i64 i ∧ wr.ownsRow W2.heap.size 3 1 lv i (nums (tmk e.start i DS)) ∧ Below W2.heap.size W2 wr) (fun _ iv _ => DS.length - (intOf iv).toNat)
      case atStart => exact ⟨0, Nat.zero_le _, rfl, World.ownsRow_nil _ _ _ _, Below.refl _ _⟩
      case round =>
        obtain ⟨i, hi', rfl, hown, hB⟩ := hrel
        obtain ⟨wa, hwa⟩ := wnm hB
        subst hwa
        have HO := Lib.hid hown
        have HBa := Lib.hid hB
        have szx := hB.size
        clear hown
        by_cases hlt : i < DS.length
        · rcases HC.out with hc | ⟨lb, lo, rfl, hc⟩
          · rw [hc] at hlt; simp at hlt
          have k0 := hc i hlt
          have lbl := ecell_in k0
          have k1 := (hB.cell (p := ⟨lb, lo + i, none⟩) lbl).trans k0
          have d1 := DI.out (DS.getD i 0) (by rw [List.getD_eq_getElem?_getD, List.getElem?_eq_getElem hlt]; exact List.getElem_mem hlt)
          have N1 := Lib.hid (tmk_snoc (st := e.start) hlt)
          obtain ⟨d, hd⟩ : ∃ d, d = DS.getD i 0 := ⟨_, rfl⟩
          rw [← hd] at k1 d1 N1
          have k2 : wa.cell? ⟨w.heap.size, 2, none⟩ = some (.int .i64 e.start) := (E2.out.on hB).1.2.2.1
          have lb2 := ecell_in k1
          have lb3 := ecell_in k2
          have SS : Hid (∀ X, Below W2.heap.size W2 X → X.cell? ⟨lb, lo + i, none⟩ = some (.int .i64 d) ∧ X.cell? ⟨w.heap.size, 2, none⟩ = some (.int .i64 e.start)) := Lib.hid (fun X q => ⟨(q.cell (p := ⟨lb, lo + i, none⟩) lbl).trans (by rw [hd]; exact k0), (E2.out.on q).1.2.2.1⟩)
          obtain ⟨d1, d2⟩ := d1
          have VAL : Hid ((IntKind.i64.wrap (IntKind.i64.wrap (IntKind.i64.wrap (d - 1) * 1440) + e.start.tmod 1440)) = tmx e.start d) := Lib.hid (raw_tmx d1 d2 st1 st2)
          clear hc hd k0 lbl hB EV EV2
          go_upto_region 8 with fail
          go_region_held3 (fun X => X.cell? ⟨lb, lo + i, none⟩ = some (.int .i64 d) ∧ X.cell? ⟨w.heap.size, 2, none⟩ = some (.int .i64 e.start))
            (first | exact SS.out _ (Below.drew HBa.out) | exact SS.out _ (Below.alloc (Below.drew HBa.out) szx _) | exact SS.out _ (Below.drew (Below.alloc HBa.out szx _)) | exact SS.out _ hb3)
            (first
            | (refine Zo.step_append_own rfl _ _ 26 rfl W2.heap.size 3 i0 (.int .i64 0) 1 8 Tryz.underlying26 hi hz0 hz1 hz2 rfl (by decide) _ i (nums (tmk e.start i DS)) rfl (ow_below HO.out (Below.drew (Below.alloc (Below.refl _ _) (Nat.le_refl _) _))) ⟨wa.heap.size, 0, none⟩ 1 1 [.int .i64 (IntKind.i64.wrap (IntKind.i64.wrap (IntKind.i64.wrap (d - 1) * 1440) + e.start.tmod 1440))] rfl rfl (one_news _ _) (fun u hu => by simp at hu; subst hu; rfl) (by unfold maxLen; omega) (by omega) (Nat.le_trans szx (by simp)) ?_; intro v' w3 R1 R2; have hb3 : Below W2.heap.size W2 w3 := Below.grown (Below.drew (Below.alloc HBa.out szx _)) R2 (Nat.le_trans szx (by simp)) (fun j hj => (HO.out.lt j hj).1); have Q1 := Lib.hid R1; rw [VAL.out] at Q1; clear R1 R2))
          all_goals
            rw [← nums_snoc] at Q1
            have Q2 := Lib.hid hb3
            clear hb3 k1 k2 lb2 lb3
            go_wp2
            go_roundw
            case rel => exact ⟨i + 1, by omega, by go_num, by rw [N1.out]; exact Q1.out, Q2.out⟩
            case measure => simp [intOf]; omega
        · have ei : i = DS.length := by omega
          have IS0 := ow_ints HO.out
          have FR0 := HO.out
          rw [ei, EV2.out] at IS0
          have LN : (DS.map (tmx e.start)).length = i := by rw [List.length_map, ei]
          rw [ei, EV2.out, ← ei, ← LN] at FR0
          have IS := Lib.hid IS0
          have FR := Lib.hid (own_frl FR0)
          have B3 := Lib.hid (B2.out.trans (hB.mono B2.out.size))
          have E3 := Lib.hid (E2.out.on hB)
          clear IS0 FR0 LN hB HO
          go_wp2
          go_meet
          case rel => exact ⟨by rw [EV.out]; exact IS.out, by rw [EV.out]; exact FR.out, B3.out, E3.out⟩
  case rest =>
    obtain ⟨hI, hF, hb, he⟩ := hcut
    obtain ⟨W2, hw2⟩ := wnm hb
    subst hw2
    have B2 := Lib.hid hb
    have E2 := Lib.hid he
    have HI0 := Lib.hid hI
    have HF0 := Lib.hid hF
    have DR := Lib.hid (dbL_rise (t := t) H0.out)
    have DL := dbL_len (t := t) H0.out
    have ML := (evF_lens H0.out).1.2.2
    have NL := (evF_lens H0.out).1.2.1
    have FE := Lib.hid (fun p => @flt_end e fr t p)
    have c13 := E2.out.2.2.1
    have wl := E2.out.lt
    obtain ⟨ao, co, eo, ho⟩ := (HV.out _ B2.out).2.2.2.2.1
    have HO := Lib.hid ho
    have EO := Lib.hid eo
    rw [eo] at c13
    clear hI hF hb he B1 E1 HP1 ho eo H0
    generalize dbL e t = DB at HI0 HF0 DR DL FE
    go_wp2_with fail
    clear c13 wl
    go_loopw [7, 10] (fun lv iv wr => ∃ (i : Nat) (P : List Int), i ≤ e.more.length ∧ iv = .int .i64 i ∧ Ints wr lv P ∧ Frl lv P ∧ PutI DB e.more i P ∧ Below W2.heap.size W2 wr) (fun _ iv _ => e.more.length - (intOf iv).toNat)
    case atStart => exact ⟨0, DB, Nat.zero_le _, rfl, HI0.out, HF0.out, PutI.start DR.out, Below.refl _ _⟩
    case round =>
      obtain ⟨i, P, hi', rfl, hI, hF, hP, hB⟩ := hrel
      obtain ⟨wa, hwa⟩ := wnm hB
      subst hwa
      have HI := Lib.hid hI
      have HFr := Lib.hid hF
      have HP := Lib.hid hP
      have HBa := Lib.hid hB
      have pl := hP.2.2
      have Ea := E2.out.on hB
      have c13 : wa.cell? ⟨w.heap.size, 13, none⟩ = some (.slice ao e.more.length co) := by rw [← EO.out]; exact Ea.2.2.1
      have wl := Ea.lt
      clear hI hF hP HI0 HF0 DR
      by_cases hlt : i < e.more.length
      · clear Ea FE
        rcases HO.out with hc | ⟨lb, lo, rfl, hc⟩
        · rw [hc] at hlt; simp at hlt
        have k0 := hc i hlt
        have lbl := ecell_in k0
        have k1 := (hB.cell (p := ⟨lb, lo + i, none⟩) lbl).trans k0
        have lb2 := ecell_in k1
        have KP := Lib.hid (refPut_any _ P (e.more.getD i 0) wa HI.out HFr.out (by omega))
        have NX := Lib.hid (fun r q => HP.out.next (r := r) hlt q)
        generalize e.more.getD i 0 = x at k1 KP NX
        clear hc k0 lbl hB
        go_wp2_with fail
        clear c13 wl k1 lb2
        refine KP.out.mono ?_
        rintro y w3 ⟨u, r, rfl, g1, g2, g3, g4⟩
        have G1 := Lib.hid g1
        have G2 := Lib.hid g2
        have G3 := Lib.hid (NX.out r g3)
        have G4 := Lib.hid (HBa.out.trans (g4.mono HBa.out.size))
        clear g1 g2 g3 g4 KP NX HP HI HFr HBa
        go_wp2
        go_roundw
        case rel => exact ⟨i + 1, r, by omega, by go_num, G1.out, G2.out, G3.out, G4.out⟩
        case measure => simp [intOf]; omega
      · have ei : i = e.more.length := by omega
        have HPE := HP.out
        rw [ei] at HPE
        have FF := Lib.hid (FE.out P HPE)
        have B3 := Lib.hid (B2.out.trans (hB.mono B2.out.size))
        have E3 := Lib.hid Ea
        obtain ⟨pa, pc, rfl, hpc⟩ := HI.out
        have HC := Lib.hid hpc
        clear hpc HPE HP HI HFr HBa hB Ea FE ei B2 E2 HO
        go_wp2_with fail
        clear c13 wl
        go_loopw [11, 12, 13] (fun ov iv _ wr => ∃ i : Nat, i ≤ P.length ∧ iv = .int .i64 i ∧ wr.ownsRow wa.heap.size 3 1 ov (flt e fr t i P).length (nums (flt e fr t i P)) ∧ Below wa.heap.size wa wr) (fun _ iv _ _ => P.length - (intOf iv).toNat)
        case atStart => exact ⟨0, Nat.zero_le _, rfl, World.ownsRow_nil _ _ _ _, Below.refl _ _⟩
        case round =>
          obtain ⟨j, hj, rfl, hown, hB⟩ := hrel
          obtain ⟨wb, hwb⟩ := wnm hB
          subst hwb
          have HO := Lib.hid hown
          have HBb := Lib.hid hB
          have fl := flt_len e fr t j P
          have szx := hB.size
          clear hown
          by_cases hlt : j < P.length
          · rcases HC.out with hc | ⟨lb, lo, rfl, hc⟩
            · rw [hc] at hlt; simp at hlt
            have k0 := hc j hlt
            have lbl := ecell_in k0
            have k1 := (hB.cell (p := ⟨lb, lo + j, none⟩) lbl).trans k0
            have lb2 := ecell_in k1
            obtain ⟨x, hx⟩ : ∃ x, x = P.getD j 0 := ⟨_, rfl⟩
            have FY := Lib.hid (fun q => flt_yes (e := e) (fr := fr) (t := t) hlt q)
            have FN := Lib.hid (fun q => flt_no (e := e) (fr := fr) (t := t) hlt q)
            rw [← hx] at k1 FY FN
            have Eb := E3.out.on hB
            have Vb := (HV.out _ (B3.out.trans (hB.mono B3.out.size))).2.2.2.2.2.1
            have KI := Lib.hid (fun q => Zo.refIn_any s.vn e.nots x (wb.drewN q) (Vb.on (blw_drewN _ _ _)) (by omega))
            obtain ⟨an, cn, en, _⟩ := Vb
            have c14 : wb.cell? ⟨w.heap.size, 14, none⟩ = some (.slice an e.nots.length cn) := by rw [← en]; exact Eb.2.2.2.1
            rw [en] at KI
            have wl := Eb.lt
            have KE : Hid (kee e fr t x = (!(e.nots.contains x) && (decide (fr ≤ x) && decide (x ≤ t)))) := Lib.hid rfl
            generalize kee e fr t x = KX at FY FN KE
            generalize e.nots.contains x = CX at KI KE
            generalize flt e fr t j P = xs at HO fl FY FN
            clear hc k0 lbl hx hB en Eb FF
            go_wp2_with fail
            go_quiet ((go_at_call 103; exact Calls.quiet_of_same (KI.out _)))
            have hbc : Below wb.heap.size wb (wb.drewN nq) := blw_drewN _ _ _
            have k2 : (wb.drewN nq).cell? ⟨lb, lo + j, none⟩ = some (.int .i64 x) := k1
            have lb3 : lb < (wb.drewN nq).heap.size := lb2
            have HOc := Lib.hid (ow_below HO.out hbc)
            have HBc := Lib.hid (HBb.out.trans (hbc.mono szx))
            generalize wb.drewN nq = wc at hbc k2 lb3 HOc HBc ⊢
            clear k1 lb2 c14 wl KI HO HBb hbc
            have szc := HBc.out.size
            rcases hc1 : CX with _ | _
            case true =>
              have N1 := Lib.hid (FN.out (by rw [KE.out, hc1]; rfl))
              clear FN FY KE
              go_wp2
              go_roundw
              case rel => exact ⟨j + 1, by omega, by go_num, by rw [N1.out]; exact HOc.out, HBc.out⟩
              case measure => simp [intOf]; omega
            by_cases c2 : fr ≤ x
            case neg =>
              have N1 := Lib.hid (FN.out (by rw [KE.out, hc1, decide_eq_false c2]; rfl))
              clear FN FY KE
              go_wp2
              go_roundw
              case rel => exact ⟨j + 1, by omega, by go_num, by rw [N1.out]; exact HOc.out, HBc.out⟩
              case measure => simp [intOf]; omega
            by_cases c3 : x ≤ t
            case neg =>
              have N1 := Lib.hid (FN.out (by rw [KE.out, hc1, decide_eq_true c2, decide_eq_false c3]; rfl))
              clear FN FY KE
              go_wp2
              go_roundw
              case rel => exact ⟨j + 1, by omega, by go_num, by rw [N1.out]; exact HOc.out, HBc.out⟩
              case measure => simp [intOf]; omega
            have N1 := Lib.hid (FY.out (by rw [KE.out, hc1, decide_eq_true c2, decide_eq_true c3]; rfl))
            clear FN FY KE
            go_wp2_with (at_builtin; refine wpList_append_own _ rfl _ _ 26 rfl wa.heap.size 3 i0 (.int .i64 0) 1 8 Tryz.underlying26 hi hz0 hz1 hz2 rfl (by decide) _ _ _ rfl (HOc.out.alloc _) ⟨wc.heap.size, 0, none⟩ 1 1 [.int .i64 x] rfl rfl ?d1 ?d2 ?d3 ?d4 ?d5 ?_)
            case d1 =>
              intro j u hj
              match j, hj with
              | 0, hj => simp at hj; subst hj; simp [Addr.add]
            case d2 => intro u hu; simp at hu; subst hu; rfl
            case d3 => unfold maxLen; omega
            case d4 => omega
            case d5 => simp; omega
            intro v' w5 hown' hgrow _
            have Q2 := Lib.hid (ow_grow szc HBc.out (Below.refl _ _) HOc.out hgrow)
            have Q1 := Lib.hid hown'
            rw [← nums_snoc] at Q1
            clear hown' hgrow HOc k2
            go_wp2
            go_roundw
            case rel => exact ⟨j + 1, by omega, by go_num, by rw [N1.out, List.length_append]; exact Q1.out, Q2.out⟩
            case measure => simp [intOf]; omega
          · have ej : j = P.length := by omega
            have IS0 := ow_ints HO.out
            rw [ej, FF.out] at IS0
            have IS := Lib.hid IS0
            have FR0 := own_frl HO.out
            rw [ej, FF.out] at FR0
            have FR := Lib.hid FR0
            have B4 := Lib.hid (B3.out.trans (hB.mono B3.out.size))
            clear IS0 FR0 HO hB ej
            go_wp2
            go_ret
            exact ⟨_, rfl, IS.out, B4.out, FR.out⟩
theorem refLocal_any (e : Evt) (s : Evs) (fr t : Int) (w : World) (hv : EvB w e s) (h : evF e = 0) (ht : t ≤ 9223372036854775807) (ht2 : -9223372036854775808 ≤ t) :
    Calls Tryz.prog 56 #[.agg (ecells e s), .int .i64 fr, .int .i64 t] w fun x w' => ∃ v, x = .returned v ∧ Ints w' v (dcL e fr t) ∧ Below w.heap.size w w' :=
  (refLocal_own e s fr t w hv h ht ht2).mono (fun _ _ ⟨v, h1, h2, h3, _⟩ => ⟨v, h1, h2, h3⟩)
end Go.Proofs.YtoncfgfjdlgfcaaGreatDoor
