/-
  What is proved here: plain words on an event and what is wrong with it; words on an event that lies in memory; what package event's isFrom, Alarm and isEmpty answer (contracts over the translation).
  What is proved here: plain facts on the times of an event: which they are, that they rise.
  What is proved here: rows of numbers that may be written; what slices.IndexFunc and slices.DeleteFunc answer at numbers and the closure of event.between (contracts over the translation).
-/
import Derived.Test.YthdohcjingfpoaaGreatDoorRE
import Derived.Test.YthdohcjingfpoaaGreatDoorBD
import Derived.Lib.SlicesCompact
import Derived.Test.YthdohcjingfpoaaGreatDoorRM
import Derived.Sort.Row
import Derived.Lib.SliceRun
import Derived.Laws.IdiomCopy
import Derived.BigQuiet
import Derived.Shelf.Abstract
namespace Go.Proofs.YthdohcjingfpoaaGreatDoor
open Go.RowKit Cal Txt

/-- An event. -/
structure Evt where
  name : ByteArray
  text : ByteArray
  start : Int
  len : Int
  rep : Bool
  rule : Rl
  more : List Int
  nots : List Int
  chg : List (Int × Int)
  alm : List (Int × Bool × Int × Int)
/-- What is wrong with an alarm; 0: nothing. -/
def alF (x : Int × Bool × Int × Int) : Int :=
  if (-100000 ≤ x.1 ∧ x.1 ≤ 100000) ∧ (0 ≤ x.2.2.1 ∧ x.2.2.1 ≤ 5) ∧ ((x.2.2.1 = 0 ∧ x.2.2.2 = 0) ∨ (¬ x.2.2.1 = 0 ∧ 1 ≤ x.2.2.2 ∧ x.2.2.2 ≤ 10000)) then 0 else 1
/-- Is a byte a letter; may it stand in a text? -/
def letB (b : UInt8) : Bool := decide (97 ≤ b.toNat ∧ b.toNat ≤ 122)
def sgnB (b : UInt8) : Bool := decide (32 ≤ b.toNat ∧ b.toNat ≤ 126)
def nmB (s : ByteArray) : Bool := decide (1 ≤ s.size ∧ s.size ≤ 8) && s.data.toList.all letB
def txB (s : ByteArray) : Bool := decide (s.size ≤ 60) && s.data.toList.all sgnB
/-- Is a rule empty? -/
def emB (r : Rl) : Bool := decide ((r.freq = 0 ∧ r.every = 0 ∧ r.count = 0 ∧ r.till = 0) ∧ r.months.length = 0 ∧ r.days.length = 0 ∧ r.weeks.length = 0 ∧ r.pick.length = 0)
def ruF (e : Evt) : Int := if e.rep = true then rf e.rule else if emB e.rule = true then 0 else 3
/-- Is a change one that may be? -/
def chB (c : Int × Int) : Bool := ist c.1 && ((c.2 == 0) || ist c.2)
/-- Do changes rise? -/
def criB (l : List (Int × Int)) : Bool := (List.range (l.length - 1)).all fun i => decide ((l.getD i (0, 0)).1 < (l.getD (i + 1) (0, 0)).1)
def full (e : Evt) : Bool := decide (100 < e.more.length ∨ 100 < e.nots.length ∨ 100 < e.chg.length ∨ 4 < e.alm.length)
def liF (e : Evt) : Int := if full e = true then 4 else if (e.more.all ist && e.nots.all ist && e.chg.all chB) = false then 1 else if (risB e.more && risB e.nots && criB e.chg) = false then 7 else 0
/-- The first fault of alarms. -/
def amF : List (Int × Bool × Int × Int) → Int
  | [] => 0
  | x :: l => if alF x = 0 then amF l else alF x
/-- What is wrong with an event; 0: nothing. -/
def evF (e : Evt) : Int := if (nmB e.name && txB e.text) = false then 2 else if (ist e.start && decide (0 ≤ e.len ∧ e.len ≤ 100000)) = false then 1 else if ¬ ruF e = 0 then ruF e else if ¬ liF e = 0 then liF e else amF e.alm
/-- A slice reads as a list of alarms. -/
def Alms (w : World) (v : Value) (l : List (Int × Bool × Int × Int)) : Prop :=
  ∃ a cap, v = .slice a l.length cap ∧ (l = [] ∨ ∃ b off, a = some ⟨b, off, none⟩ ∧ ∀ i, i < l.length → w.cell? ⟨b, off + i * 4, none⟩ = some (.int .i64 (l.getD i (0, false, 0, 0)).1) ∧ w.cell? ⟨b, off + i * 4 + 1, none⟩ = some (.bool (l.getD i (0, false, 0, 0)).2.1) ∧ w.cell? ⟨b, off + i * 4 + 2, none⟩ = some (.int .i64 (l.getD i (0, false, 0, 0)).2.2.1) ∧ w.cell? ⟨b, off + i * 4 + 3, none⟩ = some (.int .i64 (l.getD i (0, false, 0, 0)).2.2.2))
theorem ecell_in {W : World} {b o : Nat} {v : Value} (k : W.cell? ⟨b, o, none⟩ = some v) : b < W.heap.size := by
  rcases Nat.lt_or_ge b W.heap.size with q | q
  · exact q
  · simp [World.cell?, Array.getElem?_eq_none q] at k
theorem Alms.on {w w' : World} {v : Value} {l : List (Int × Bool × Int × Int)} (h : Alms w v l) (q : Below w.heap.size w w') : Alms w' v l := by
  obtain ⟨a, cap, e, hc⟩ := h
  refine ⟨a, cap, e, ?_⟩
  rcases hc with hc | ⟨b, off, ea, hc⟩
  · exact Or.inl hc
  · refine Or.inr ⟨b, off, ea, fun i hi => ?_⟩
    obtain ⟨k0, k1, k2, k3⟩ := hc i hi
    have hb : b < w.heap.size := ecell_in k0
    exact ⟨(q.cell (p := ⟨b, off + i * 4, none⟩) hb).trans k0, (q.cell (p := ⟨b, off + i * 4 + 1, none⟩) hb).trans k1, (q.cell (p := ⟨b, off + i * 4 + 2, none⟩) hb).trans k2, (q.cell (p := ⟨b, off + i * 4 + 3, none⟩) hb).trans k3⟩
/-- The four values of an event that are slices. -/
structure Evs where
  vm : Value
  vd : Value
  vw : Value
  vp : Value
  vo : Value
  vn : Value
  vc : Value
  va : Value
/-- An event's cells. -/
abbrev ecells (e : Evt) (s : Evs) : Array Value := #[.string e.name, .string e.text, .int .i64 e.start, .int .i64 e.len, .bool e.rep, .int .i64 e.rule.freq, .int .i64 e.rule.every, .int .i64 e.rule.count, .int .i64 e.rule.till, s.vm, s.vd, s.vw, s.vp, s.vo, s.vn, s.vc, s.va]
/-- An event's cells lie in a block. -/
def EBox (W : World) (b : Nat) (e : Evt) (s : Evs) : Prop :=
  (W.cell? ⟨b, 0, none⟩ = some (.string e.name) ∧ W.cell? ⟨b, 1, none⟩ = some (.string e.text) ∧ W.cell? ⟨b, 2, none⟩ = some (.int .i64 e.start) ∧ W.cell? ⟨b, 3, none⟩ = some (.int .i64 e.len) ∧ W.cell? ⟨b, 4, none⟩ = some (.bool e.rep)) ∧
  (W.cell? ⟨b, 5, none⟩ = some (.int .i64 e.rule.freq) ∧ W.cell? ⟨b, 6, none⟩ = some (.int .i64 e.rule.every) ∧ W.cell? ⟨b, 7, none⟩ = some (.int .i64 e.rule.count) ∧ W.cell? ⟨b, 8, none⟩ = some (.int .i64 e.rule.till) ∧ W.cell? ⟨b, 9, none⟩ = some s.vm ∧ W.cell? ⟨b, 10, none⟩ = some s.vd ∧ W.cell? ⟨b, 11, none⟩ = some s.vw ∧ W.cell? ⟨b, 12, none⟩ = some s.vp) ∧
  (W.cell? ⟨b, 13, none⟩ = some s.vo ∧ W.cell? ⟨b, 14, none⟩ = some s.vn ∧ W.cell? ⟨b, 15, none⟩ = some s.vc ∧ W.cell? ⟨b, 16, none⟩ = some s.va)
theorem EBox.lt {W : World} {b : Nat} {e : Evt} {s : Evs} (h : EBox W b e s) : b < W.heap.size := ecell_in h.1.1
theorem EBox.on {W W' : World} {b : Nat} {e : Evt} {s : Evs} (h : EBox W b e s) (q : Below W.heap.size W W') : EBox W' b e s := by
  have l := h.lt
  have k : ∀ (o : Nat) (v : Value), W.cell? ⟨b, o, none⟩ = some v → W'.cell? ⟨b, o, none⟩ = some v := fun o v z => (q.cell (p := ⟨b, o, none⟩) l).trans z
  obtain ⟨⟨a0, a1, a2, a3, a4⟩, ⟨b0, b1, b2, b3, b4, b5, b6, b7⟩, c0, c1, c2, c3⟩ := h
  exact ⟨⟨k _ _ a0, k _ _ a1, k _ _ a2, k _ _ a3, k _ _ a4⟩, ⟨k _ _ b0, k _ _ b1, k _ _ b2, k _ _ b3, k _ _ b4, k _ _ b5, k _ _ b6, k _ _ b7⟩, k _ _ c0, k _ _ c1, k _ _ c2, k _ _ c3⟩
theorem EBox.new (W : World) (e : Evt) (s : Evs) (t : TypeId) : EBox (W.alloc (.cells (ecells e s) t)) W.heap.size e s :=
  ⟨⟨by simp, by simp, by simp, by simp, by simp⟩, ⟨by simp, by simp, by simp, by simp, by simp, by simp, by simp, by simp⟩, by simp, by simp, by simp, by simp⟩
/-- What lies behind an event's slices. -/
def EvB (w : World) (e : Evt) (s : Evs) : Prop :=
  Ints w s.vm e.rule.months ∧ Ints w s.vd e.rule.days ∧ Nths w s.vw e.rule.weeks ∧ Ints w s.vp e.rule.pick ∧ Ints w s.vo e.more ∧ Ints w s.vn e.nots ∧ Nths w s.vc e.chg ∧ Alms w s.va e.alm
theorem EvB.on {w w' : World} {e : Evt} {s : Evs} (h : EvB w e s) (q : Below w.heap.size w w') : EvB w' e s := by
  obtain ⟨a, b, c, d, f, g, i, j⟩ := h
  exact ⟨a.on q, b.on q, c.on q, d.on q, f.on q, g.on q, i.on q, j.on q⟩
/-- The value of a rule. -/
abbrev rval (e : Evt) (s : Evs) : Value := .agg #[.int .i64 e.rule.freq, .int .i64 e.rule.every, .int .i64 e.rule.count, .int .i64 e.rule.till, s.vm, s.vd, s.vw, s.vp]
theorem EvB.rule {w : World} {e : Evt} {s : Evs} (h : EvB w e s) : RuleIn w (rval e s) e.rule := ⟨_, _, _, _, rfl, h.1, h.2.1, h.2.2.1, h.2.2.2.1⟩

theorem isFrom_any (a n b : Int) (w : World) :
    Calls Tryz.prog 101 #[.int .i64 a, .int .i64 n, .int .i64 b] w fun e w' => e = .returned (.bool (decide (a ≤ n ∧ n ≤ b))) ∧ w' = w := by
  by_cases h : a ≤ n
  all_goals
    go_enter Tryz.func101, Tryz.ntmps101
    go_wp2
    go_ret
    exact ⟨ret_bool (by rw [Bool.eq_iff_iff]; simp; omega), rfl⟩
theorem efault_0 : fault 0 = .nilIface := rfl
theorem efault_1 : fault 1 = errRange := rfl
theorem efault_ne {k : Int} (h : ¬ k = 0) : fault k = .iface 86 (.int .i64 k) := if_neg h
set_option maxHeartbeats 1000000 in
theorem ealarm_any (o : Int) (b : Bool) (r t : Int) (w : World) :
    Calls Tryz.prog 104 #[.agg #[.int .i64 o, .bool b, .int .i64 r, .int .i64 t]] w fun e w' => e = .returned (fault (alF (o, b, r, t))) ∧ Below w.heap.size w w' := by
  have HB := Lib.hid ((Below.refl w.heap.size w).alloc (Nat.le_refl _) (.cells #[.int .i64 o, .bool b, .int .i64 r, .int .i64 t] 32))
  rcases h0 : (r != 0) with _ | _
  · rcases h1 : decide (-100000 ≤ o ∧ o ≤ 100000) with _ | _
    all_goals
      rcases h2 : decide (0 ≤ r ∧ r ≤ 5) with _ | _
      all_goals
        rcases h3 : decide (0 ≤ t ∧ t ≤ 0) with _ | _
        all_goals
          first
            | (have N1 : Hid (alF (o, b, r, t) = 0) := Lib.hid (if_pos (by simp at h0 h1 h2 h3; simp; omega))
               go_enter Tryz.func104, Tryz.ntmps104
               go_wp2_with (go_at_call 101; refine (isFrom_any _ _ _ _).mono ?_; rintro e w' ⟨rfl, rfl⟩; first | rw [h1] | rw [h2] | rw [h3])
               go_ret
               exact ⟨by rw [N1.out]; rfl, HB.out⟩)
            | (have N1 : Hid (alF (o, b, r, t) = 1) := Lib.hid (if_neg (by simp at h0 h1 h2 h3; simp; omega))
               go_enter Tryz.func104, Tryz.ntmps104
               go_wp2_with (go_at_call 101; refine (isFrom_any _ _ _ _).mono ?_; rintro e w' ⟨rfl, rfl⟩; first | rw [h1] | rw [h2] | rw [h3])
               go_ret
               exact ⟨by rw [N1.out]; rfl, HB.out⟩)
  · rcases h1 : decide (-100000 ≤ o ∧ o ≤ 100000) with _ | _
    all_goals
      rcases h2 : decide (0 ≤ r ∧ r ≤ 5) with _ | _
      all_goals
        rcases h3 : decide (1 ≤ t ∧ t ≤ 10000) with _ | _
        all_goals
          first
            | (have N1 : Hid (alF (o, b, r, t) = 0) := Lib.hid (if_pos (by simp at h0 h1 h2 h3; simp; omega))
               go_enter Tryz.func104, Tryz.ntmps104
               go_wp2_with (go_at_call 101; refine (isFrom_any _ _ _ _).mono ?_; rintro e w' ⟨rfl, rfl⟩; first | rw [h1] | rw [h2] | rw [h3])
               go_ret
               exact ⟨by rw [N1.out]; rfl, HB.out⟩)
            | (have N1 : Hid (alF (o, b, r, t) = 1) := Lib.hid (if_neg (by simp at h0 h1 h2 h3; simp; omega))
               go_enter Tryz.func104, Tryz.ntmps104
               go_wp2_with (go_at_call 101; refine (isFrom_any _ _ _ _).mono ?_; rintro e w' ⟨rfl, rfl⟩; first | rw [h1] | rw [h2] | rw [h3])
               go_ret
               exact ⟨by rw [N1.out]; rfl, HB.out⟩)
set_option maxHeartbeats 1000000 in
theorem isEmpty_any (r : Rl) (v : Value) (w : World) (hv : RuleIn w v r) :
    Calls Tryz.prog 142 #[v] w fun e w' => e = .returned (.bool (emB r)) ∧ Below w.heap.size w w' := by
  obtain ⟨_, _, _, _, rfl, ⟨am, cm, rfl, _⟩, ⟨ad, cd, rfl, _⟩, ⟨aw, cw, rfl, _⟩, ap, cp, rfl, _⟩ := hv
  obtain ⟨E, hE⟩ : ∃ E, E = emB r := ⟨_, rfl⟩
  rw [← hE]
  unfold emB at hE
  obtain ⟨f, ev, c, u, ms, ds, ws, ps⟩ := r
  simp only at hE ⊢
  generalize ms.length = l1 at hE ⊢
  generalize ds.length = l2 at hE ⊢
  generalize ws.length = l3 at hE ⊢
  generalize ps.length = l4 at hE ⊢
  have HE := Lib.hid hE
  clear hE
  have HB := Lib.hid ((Below.refl w.heap.size w).alloc (Nat.le_refl _) (.cells #[.int .i64 f, .int .i64 ev, .int .i64 c, .int .i64 u, .slice am l1 cm, .slice ad l2 cd, .slice aw l3 cw, .slice ap l4 cp] 37))
  have fin : ∀ {a : Bool}, (a = decide ((f = 0 ∧ ev = 0 ∧ c = 0 ∧ u = 0) ∧ l1 = 0 ∧ l2 = 0 ∧ l3 = 0 ∧ l4 = 0)) → a = E := fun q => q.trans HE.out.symm
  go_enter Tryz.func142, Tryz.ntmps142
  rcases h1 : (f == 0) with _ | _
  · go_wp2
    go_ret
    exact ⟨ret_bool (fin (by simp at h1; rw [eq_comm]; simp [h1])), HB.out⟩
  rcases h2 : (ev == 0) with _ | _
  · go_wp2
    go_ret
    exact ⟨ret_bool (fin (by simp at h2; rw [eq_comm]; simp [h2])), HB.out⟩
  rcases h3 : (c == 0) with _ | _
  · go_wp2
    go_ret
    exact ⟨ret_bool (fin (by simp at h3; rw [eq_comm]; simp [h3])), HB.out⟩
  rcases h4 : (u == 0) with _ | _
  · go_wp2
    go_ret
    exact ⟨ret_bool (fin (by simp at h4; rw [eq_comm]; simp [h4])), HB.out⟩
  rcases h5 : ((l1 : Int) == 0) with _ | _
  · go_wp2
    go_ret
    exact ⟨ret_bool (fin (by simp at h5; rw [eq_comm]; simp [h5])), HB.out⟩
  rcases h6 : ((l2 : Int) == 0) with _ | _
  · go_wp2
    go_ret
    exact ⟨ret_bool (fin (by simp at h6; rw [eq_comm]; simp [h6])), HB.out⟩
  rcases h7 : ((l3 : Int) == 0) with _ | _
  · go_wp2
    go_ret
    exact ⟨ret_bool (fin (by simp at h7; rw [eq_comm]; simp [h7])), HB.out⟩
  rcases h8 : ((l4 : Int) == 0) with _ | _
  · go_wp2
    go_ret
    exact ⟨ret_bool (fin (by simp at h8; rw [eq_comm]; simp [h8])), HB.out⟩
  go_wp2
  go_ret
  exact ⟨ret_bool (fin (by simp at h1 h2 h3 h4 h5 h6 h7 h8; rw [eq_comm]; simp [h1, h2, h3, h4, h5, h6, h7, h8])), HB.out⟩
theorem blw_cells {B g : Nat} (hg : B ≤ g) : ∀ (vs : List Value) (o : Nat) (w : World), Below B w (w.setCells g o vs)
  | [], _, w => Below.refl B w
  | v :: r, o, w => ((Below.refl B w).setCell (p := ⟨g, o, none⟩) hg v).trans (blw_cells hg r (o + 1) _)
end Go.Proofs.YthdohcjingfpoaaGreatDoor
namespace Go.Proofs.YthdohcjingfpoaaGreatDoor
open Go.RowKit Cal Txt

theorem cmp_inv (d : Array Int) (hs : ∀ i j, i ≤ j → j < d.size → d[i]! ≤ d[j]!) : ∀ m, m ≤ d.size → (Lib.compactUpTo d m).Pairwise (· < ·) ∧ ∀ x, x ∈ Lib.compactUpTo d m ↔ ∃ j, j < m ∧ d[j]! = x
  | 0, _ => ⟨List.Pairwise.nil, fun x => by simp [Lib.compactUpTo]⟩
  | m + 1, h => by
    obtain ⟨a, b⟩ := cmp_inv d hs m (by omega)
    rw [Lib.compactUpTo_succ]
    rcases hk : Lib.keeps d m with _ | _
    · have hk' : ¬ (m = 0 ∨ d[m]! ≠ d[m - 1]!) := of_decide_eq_false hk
      have h1 : ¬ m = 0 := fun q => hk' (Or.inl q)
      have h2 : d[m]! = d[m - 1]! := Decidable.byContradiction (fun q => hk' (Or.inr q))
      rw [if_neg (by decide), List.append_nil]
      refine ⟨a, fun x => (b x).trans ⟨fun ⟨j, q, e⟩ => ⟨j, by omega, e⟩, fun ⟨j, q, e⟩ => ?_⟩⟩
      rcases Nat.lt_or_ge j m with g | g
      · exact ⟨j, g, e⟩
      · obtain rfl : j = m := by omega
        exact ⟨j - 1, by omega, by rw [← h2]; exact e⟩
    · have hk' : m = 0 ∨ d[m]! ≠ d[m - 1]! := of_decide_eq_true hk
      rw [if_pos rfl]
      refine ⟨List.pairwise_append.2 ⟨a, List.pairwise_singleton _ _, fun x hx y hy => ?_⟩, fun x => ?_⟩
      · obtain ⟨j, q, e⟩ := (b x).1 hx
        have ey : y = d[m]! := by simpa using hy
        rw [ey, ← e]
        have l1 := hs j (m - 1) (by omega) (by omega)
        have l2 := hs (m - 1) m (by omega) (by omega)
        rcases hk' with z | z
        · omega
        · omega
      · rw [List.mem_append, b x]
        constructor
        · rintro (⟨j, q, e⟩ | q)
          · exact ⟨j, by omega, e⟩
          · exact ⟨m, by omega, by simpa [eq_comm] using q⟩
        · rintro ⟨j, q, e⟩
          rcases Nat.lt_or_ge j m with g | g
          · exact Or.inl ⟨j, g, e⟩
          · obtain rfl : j = m := by omega
            exact Or.inr (by simp [e])
theorem cmp_list (l : List Int) (hs : l.Pairwise (· ≤ ·)) : (Lib.compact l).Pairwise (· < ·) ∧ ∀ x, x ∈ Lib.compact l ↔ x ∈ l := by
  have hg : ∀ i, i < l.length → l.toArray[i]! = l.getD i 0 := fun i hi => by
    rw [getElem!_pos _ i (by simpa using hi), List.getD_eq_getElem?_getD, List.getElem?_eq_getElem hi]; simp
  have k := cmp_inv l.toArray (fun i j hij hj => by
    have hj' : j < l.length := by simpa using hj
    rw [hg i (by omega), hg j hj']
    rcases Nat.eq_or_lt_of_le hij with q | q
    · rw [q]; exact Int.le_refl _
    · have := List.pairwise_iff_getElem.1 hs i j (by omega) hj' q
      rw [List.getD_eq_getElem?_getD, List.getElem?_eq_getElem (by omega), List.getD_eq_getElem?_getD, List.getElem?_eq_getElem hj']
      exact this) l.length (by simp)
  refine ⟨k.1, fun x => (k.2 x).trans ⟨fun ⟨j, hj, e⟩ => ?_, fun hx => ?_⟩⟩
  · rw [hg j hj] at e
    rw [← e, List.getD_eq_getElem?_getD, List.getElem?_eq_getElem hj]
    exact List.getElem_mem hj
  · obtain ⟨j, hj, e⟩ := List.getElem_of_mem hx
    exact ⟨j, hj, by rw [hg j hj, List.getD_eq_getElem?_getD, List.getElem?_eq_getElem hj]; exact e⟩
/-- Is a number none that is told? -/
def outB (e : Evt) (fr t x : Int) : Bool := e.nots.contains x || !decide (fr ≤ x ∧ x ≤ t)
/-- The times, out of those of Start. -/
def evL (l : List Int) (e : Evt) (fr t : Int) : List Int := Lib.compact (((l ++ e.more).filter (fun x => !outB e fr t x)).mergeSort (fun x y => decide (x ≤ y)))
theorem srt_le (l : List Int) : (l.mergeSort (fun x y => decide (x ≤ y))).Pairwise (· ≤ ·) := by
  have := List.pairwise_mergeSort (le := fun x y : Int => decide (x ≤ y)) (fun a b c h k => by simp at *; omega) (fun a b => by simp; omega) l
  exact this.imp (fun h => by simpa using h)
theorem evL_rise (l : List Int) (e : Evt) (fr t : Int) : (evL l e fr t).Pairwise (· < ·) := (cmp_list _ (srt_le _)).1
theorem evL_mem {l : List Int} {e : Evt} {fr t x : Int} : x ∈ evL l e fr t ↔ (x ∈ l ∨ x ∈ e.more) ∧ x ∉ e.nots ∧ fr ≤ x ∧ x ≤ t := by
  unfold evL
  rw [(cmp_list _ (srt_le _)).2, List.mem_mergeSort, List.mem_filter, List.mem_append]
  unfold outB
  simp
/-- Two lists that rise and hold the same are the same. -/
theorem rise_ext2 : ∀ {a b : List Int}, a.Pairwise (· < ·) → b.Pairwise (· < ·) → (∀ x, x ∈ a ↔ x ∈ b) → a = b
  | [], [], _, _, _ => rfl
  | [], y :: b, _, _, h => by have := (h y).2 (by simp); cases this
  | x :: a, [], _, _, h => by have := (h x).1 (by simp); cases this
  | x :: a, y :: b, ha, hb, h => by
    obtain ⟨h1, h2⟩ := List.pairwise_cons.1 ha
    obtain ⟨k1, k2⟩ := List.pairwise_cons.1 hb
    have e : x = y := by
      rcases List.mem_cons.1 ((h x).1 (by simp)) with q | q
      · exact q
      · rcases List.mem_cons.1 ((h y).2 (by simp)) with z | z
        · exact z.symm
        · have := k1 x q; have := h1 y z; omega
    subst e
    rw [rise_ext2 h2 k2 (fun z => ⟨fun hz => ?_, fun hz => ?_⟩)]
    · rcases List.mem_cons.1 ((h z).1 (List.mem_cons_of_mem _ hz)) with q | q
      · have := h1 z hz; omega
      · exact q
    · rcases List.mem_cons.1 ((h z).2 (List.mem_cons_of_mem _ hz)) with q | q
      · have := k1 z hz; omega
      · exact q
end Go.Proofs.YthdohcjingfpoaaGreatDoor
namespace Go.Proofs.YthdohcjingfpoaaGreatDoor
open Go.RowKit Cal

/-- Cells hold numbers, and may be written. -/
def Hol (w : World) (b off : Nat) (l : List Int) : Prop := ∀ j, j < l.length → w.cell? ⟨b, off + j, none⟩ = some (.int .i64 (l.getD j 0)) ∧ w.frozen? ⟨b, off + j, none⟩ = false
theorem arr_get (l : List Int) (j : Nat) (h : j < l.length) : l.toArray[j]! = l.getD j 0 := by
  rw [getElem!_pos _ j (by simpa using h), List.getD_eq_getElem?_getD, List.getElem?_eq_getElem h]; simp
theorem Hol.holds {w : World} {b off : Nat} {l : List Int} (h : Hol w b off l) : Sort.Holds (Value.int .i64) w b off l.toArray := fun j hj => by
  have hj' : j < l.length := by simpa using hj
  rw [arr_get l j hj']; exact h j hj'
theorem Hol.of {w : World} {b off : Nat} {l : List Int} (h : Sort.Holds (Value.int .i64) w b off l.toArray) : Hol w b off l := fun j hj => by
  have := h j (by simpa using hj)
  rwa [arr_get l j hj] at this
theorem below_put {n0 : Nat} {w : World} {b off : Nat} {d : Array Int} (hb : n0 ≤ b) : Below n0 w (Sort.putRow (Value.int .i64) w b off d) :=
  ⟨rfl, rfl, rfl, by simp, fun k hk => by
    simp only [Sort.putRow, Sort.mapBlock, Array.getElem?_modify]
    rw [if_neg (by omega)]⟩
theorem Hol.lt {w : World} {b off : Nat} {l : List Int} (h : Hol w b off l) (h0 : 0 < l.length) : b < w.heap.size := by
  have k := (h 0 h0).1
  rcases Nat.lt_or_ge b w.heap.size with q | q
  · exact q
  · simp [World.cell?, Array.getElem?_eq_none q] at k
theorem Hol.store {n0 : Nat} {w : World} {b off : Nat} {l : List Int} (h : Hol w b off l) (i : Nat) (x : Int) (hi : i < l.length) (hb : n0 ≤ b) :
    Hol (w.setCell ⟨b, off + i, none⟩ (.int .i64 x)) b off (l.set i x) ∧ Below n0 w (w.setCell ⟨b, off + i, none⟩ (.int .i64 x)) := by
  have e : w.setCell ⟨b, off + i, none⟩ (.int .i64 x) = Sort.putRow (Value.int .i64) w b off (l.toArray.setIfInBounds i x) := by
    have := Sort.putRow_set (Value.int .i64) w b off l.toArray i x (by simpa using hi)
    rw [Sort.putRow_self (Value.int .i64) w b off l.toArray h.holds] at this
    exact this
  rw [e]
  refine ⟨?_, below_put hb⟩
  have k := Sort.holds_putRow (Value.int .i64) w b off l.toArray (l.toArray.setIfInBounds i x) h.holds (by simp)
  rw [List.setIfInBounds_toArray] at k
  rw [List.setIfInBounds_toArray]
  exact Hol.of k
theorem Hol.take {w : World} {b off : Nat} {l : List Int} (h : Hol w b off l) (i : Nat) : Hol w b off (l.take i) := fun j hj => by
  rw [List.length_take] at hj
  have := h j (by omega)
  rwa [List.getD_eq_getElem?_getD, List.getElem?_take, if_pos (by omega), ← List.getD_eq_getElem?_getD]
theorem Hol.cut {n0 : Nat} {w : World} {b off : Nat} {l : List Int} (h : Hol w b off l) (i : Nat) (vs : List Value) (hi : i ≤ l.length) (hb : n0 ≤ b) :
    Hol (w.setCells b (off + i) vs) b off (l.take i) ∧ Below n0 w (w.setCells b (off + i) vs) := by
  refine ⟨fun j hj => ?_, ?_⟩
  · have hj2 := hj
    rw [List.length_take] at hj2
    rw [World.cell?_setCells_out b vs (off + i) w ⟨b, off + j, none⟩ (fun _ _ => Or.inl (by show off + j < off + i; omega)), World.frozen?_setCells]
    exact (h.take i) j hj
  · exact blw_cells hb vs (off + i) w
/-- A block is a row of so many numbers that may be written. -/
def Shp (w : World) (g cap : Nat) : Prop := ∃ cur, w.heap[g]? = some (.cells cur 3 (0, 0)) ∧ cur.size = cap
/-- Its shape is as it was. -/
def Shs (g : Nat) (w w' : World) : Prop := ∀ cap, Shp w g cap → Shp w' g cap
theorem Shs.refl (g : Nat) (w : World) : Shs g w w := fun _ h => h
theorem Shs.trans {g : Nat} {a b c : World} (h : Shs g a b) (k : Shs g b c) : Shs g a c := fun n q => k n (h n q)
theorem shs_drewN (g : Nat) (w : World) (q : Nat) : Shs g w (w.drewN q) := fun _ h => h
theorem shs_map (g b : Nat) (w : World) (f : Array Value → Array Value) (hf : ∀ c, (f c).size = c.size) : Shs g w (Sort.mapBlock w b f) := fun n ⟨cur, h1, h2⟩ => by
  by_cases e : b = g
  · subst e
    refine ⟨f cur, ?_, by rw [hf]; exact h2⟩
    simp only [Sort.mapBlock, Array.getElem?_modify, if_true, h1]
    rfl
  · refine ⟨cur, ?_, h2⟩
    simp only [Sort.mapBlock, Array.getElem?_modify]
    rw [if_neg e]; exact h1
theorem shs_put (g b off : Nat) (w : World) (d : Array Int) : Shs g w (Sort.putRow (Value.int .i64) w b off d) := shs_map g b w _ (fun c => by simp [Sort.putCells])
theorem shs_cell (g b off : Nat) (w : World) (v : Value) : Shs g w (w.setCell ⟨b, off, none⟩ v) := by
  rw [Sort.setCell_eq]; exact shs_map g b w _ (fun c => by simp)
theorem shs_cells (g b : Nat) : ∀ (vs : List Value) (o : Nat) (w : World), Shs g w (w.setCells b o vs)
  | [], _, w => Shs.refl g w
  | v :: r, o, w => (shs_cell g b o w v).trans (shs_cells g b r (o + 1) _)
/-- How far the closure of event.between answers: what it asks, the world but for the count of draws as it was. -/
def Cls (n0 : Nat) (w : World) (c1 c2 c3 : Value) (p : Int → Bool) : Prop :=
  ∀ (x : Int) (W : World), Below n0 w W → Calls Tryz.prog 228 #[.int .i64 x, c1, c2, c3] W fun e w' => e = .returned (.bool (p x)) ∧ ∃ q, w' = W.drewN q
theorem blw_drewN (n0 : Nat) (w : World) (q : Nat) : Below n0 w (w.drewN q) := ⟨rfl, rfl, rfl, Nat.le_refl _, fun _ _ => rfl⟩
theorem Hol.drewN {w : World} {b off : Nat} {l : List Int} (h : Hol w b off l) (q : Nat) : Hol (w.drewN q) b off l := h
theorem any_tk (p : Int → Bool) (l : List Int) (k : Nat) (h : k < l.length) (ha : (l.take k).any p = false) (hp : p (l.getD k 0) = false) : (l.take (k + 1)).any p = false := by
  rw [List.take_succ_eq_append_getElem h, List.any_append, ha, List.any_cons, List.any_nil]
  rw [List.getD_eq_getElem?_getD, List.getElem?_eq_getElem h] at hp
  simpa using hp
set_option maxHeartbeats 1000000 in
theorem idx_any (c1 c2 c3 : Value) (p : Int → Bool) (l : List Int) (n0 b off cap : Nat) (w : World) (hC : Cls n0 w c1 c2 c3 p) (hh : Hol w b off l) (hl : l.length ≤ 1000000000) :
    Calls Tryz.prog 251 #[.slice (some ⟨b, off, none⟩) l.length cap, .func (.func 228) #[] #[c1, c2, c3]] w fun e w' => (∃ q, w' = w.drewN q) ∧
      ((e = .returned (.int .i64 (-1)) ∧ l.any p = false) ∨ ∃ k : Nat, e = .returned (.int .i64 k) ∧ k < l.length ∧ (l.take k).any p = false ∧ p (l.getD k 0) = true) := by
  have HH := Lib.hid hh
  have HC := Lib.hid hC
  clear hh hC
  have eg : ∀ args w, (callFunc 228 args).run Tryz.prog w = .ok (.enter 228 args) w := enters_of Tryz.func228 (by kernel_rfl) rfl
  go_enter Tryz.func251, Tryz.ntmps251
  go_wp2
  go_loopw [8] (fun i wr => ∃ k q : Nat, k ≤ l.length ∧ i = .int .i64 k ∧ (l.take k).any p = false ∧ wr = w.drewN q) (fun i _ => l.length - (intOf i).toNat)
  case atStart => exact ⟨0, 0, Nat.zero_le _, rfl, rfl, rfl⟩
  case round =>
    obtain ⟨k, q, hk, rfl, hF, rfl⟩ := hrel
    have HF := Lib.hid hF
    clear hF
    by_cases hlt : k < l.length
    · have ck : (w.drewN q).cell? ⟨b, off + k, none⟩ = some (.int .i64 (l.getD k 0)) := (HH.out k hlt).1
      obtain ⟨x, hx⟩ : ∃ x, x = l.getD k 0 := ⟨_, rfl⟩
      rw [← hx] at ck
      have HX := Lib.hid hx
      have K := Lib.hid (HC.out x (w.drewN q) (blw_drewN _ _ _))
      clear hx
      go_wp2_with fail
      refine K.out.mono ?_
      rintro e w' ⟨rfl, q2, rfl⟩
      clear K ck
      rcases hp : p x with _ | _
      · have N1 := Lib.hid (any_tk p l k hlt HF.out (by rw [← HX.out]; exact hp))
        go_wp2
        go_roundw
        case rel => exact ⟨k + 1, q + q2, by omega, by go_num, N1.out, by first | rfl | rw [World.drewN_drewN]⟩
        case measure => simp [intOf]; omega
      · have N1 : Hid (p (l.getD k 0) = true) := Lib.hid (by rw [← HX.out]; exact hp)
        go_wp2
        go_ret
        exact ⟨⟨q + q2, by first | rfl | rw [World.drewN_drewN]⟩, Or.inr ⟨k, rfl, hlt, HF.out, N1.out⟩⟩
    · have N1 : Hid (l.any p = false) := Lib.hid (by have := HF.out; rwa [List.take_of_length_le (by omega)] at this)
      go_wp2
      go_ret
      exact ⟨⟨q, rfl⟩, Or.inl ⟨rfl, N1.out⟩⟩
/-- How far the deleting has come. -/
def DInv (l : List Int) (p : Int → Bool) (j i : Nat) (d : List Int) : Prop :=
  d.length = l.length ∧ i < j ∧ j ≤ l.length ∧ d.take i = (l.take j).filter (fun x => !p x) ∧ ∀ t, j ≤ t → d.getD t 0 = l.getD t 0
theorem DInv.begin {l : List Int} {p : Int → Bool} {k : Nat} (hk : k < l.length) (ha : (l.take k).any p = false) (hp : p (l.getD k 0) = true) : DInv l p (k + 1) k l := by
  refine ⟨rfl, by omega, by omega, ?_, fun t _ => rfl⟩
  rw [List.take_succ_eq_append_getElem hk, List.filter_append]
  rw [List.getD_eq_getElem?_getD, List.getElem?_eq_getElem hk] at hp
  have hp' : p l[k] = true := hp
  rw [List.filter_eq_self.2 (fun x hx => by have := List.any_eq_false.1 ha x hx; simpa using this)]
  simp [hp']
theorem DInv.skip {l : List Int} {p : Int → Bool} {j i : Nat} {d : List Int} (h : DInv l p j i d) (hj : j < l.length) (hp : p (l.getD j 0) = true) : DInv l p (j + 1) i d := by
  obtain ⟨a, b, c, e, f⟩ := h
  refine ⟨a, by omega, by omega, ?_, fun t ht => f t (by omega)⟩
  rw [List.getD_eq_getElem?_getD, List.getElem?_eq_getElem hj] at hp
  have hp' : p l[j] = true := hp
  rw [List.take_succ_eq_append_getElem hj, List.filter_append, ← e]
  simp [hp']
theorem DInv.keep {l : List Int} {p : Int → Bool} {j i : Nat} {d : List Int} (h : DInv l p j i d) (hj : j < l.length) (hp : p (l.getD j 0) = false) : DInv l p (j + 1) (i + 1) (d.set i (l.getD j 0)) := by
  obtain ⟨a, b, c, e, f⟩ := h
  refine ⟨by simpa using a, by omega, by omega, ?_, fun t ht => ?_⟩
  · rw [List.take_succ_eq_append_getElem (l := l) hj, List.filter_append, ← e]
    rw [List.getD_eq_getElem?_getD, List.getElem?_eq_getElem hj] at hp ⊢
    have hp' : p l[j] = false := hp
    rw [List.take_succ_eq_append_getElem (by rw [List.length_set]; omega), List.take_set_of_le (Nat.le_refl _)]
    simp [hp']
  · rw [List.getD_eq_getElem?_getD, List.getElem?_set_ne (by omega), ← List.getD_eq_getElem?_getD]
    exact f t (by omega)
theorem DInv.done {l : List Int} {p : Int → Bool} {i : Nat} {d : List Int} (h : DInv l p l.length i d) : d.take i = l.filter (fun x => !p x) := by
  have := h.2.2.2.1
  rwa [List.take_length] at this
/-- What is answered by what deletes: a row that may be written, in the same block. -/
def RowA (n0 : Nat) (w : World) (l : List Int) (b off cap : Nat) (e : Ending) (w' : World) : Prop :=
  e = .returned (.slice (some ⟨b, off, none⟩) l.length cap) ∧ Hol w' b off l ∧ Below n0 w w' ∧ Shs b w w'
set_option maxRecDepth 100000 in
set_option maxHeartbeats 2000000 in
theorem del_any (c1 c2 c3 : Value) (p : Int → Bool) (l : List Int) (n0 b off cap : Nat) (w : World) (hC : Cls n0 w c1 c2 c3 p) (hh : Hol w b off l) (hb : n0 ≤ b) (h0 : 0 < l.length) (hcap : l.length ≤ cap) (hl : l.length ≤ 1000000000) :
    Calls Tryz.prog 230 #[.slice (some ⟨b, off, none⟩) l.length cap, .func (.func 228) #[] #[c1, c2, c3]] w (RowA n0 w (l.filter (fun x => !p x)) b off cap) := by
  have K := Lib.hid (idx_any c1 c2 c3 p l n0 b off cap w hC hh (by omega))
  have HH := Lib.hid hh
  have HC := Lib.hid hC
  have HN := Lib.hid hb
  clear hh hC hb
  have eg : ∀ args w, (callFunc 228 args).run Tryz.prog w = .ok (.enter 228 args) w := enters_of Tryz.func228 (by kernel_rfl) rfl
  go_enter Tryz.func230, Tryz.ntmps230
  go_wp2_with fail
  refine K.out.mono ?_
  rintro e w1 ⟨⟨q1, rfl⟩, hx⟩
  clear K
  rcases hx with ⟨rfl, ha⟩ | ⟨k, rfl, hk, ha, hp⟩
  · have N : Hid (l.filter (fun x => !p x) = l) := Lib.hid (List.filter_eq_self.2 (fun x hx => by have := List.any_eq_false.1 ha x hx; simpa using this))
    clear ha
    go_wp2
    go_ret
    exact ⟨by rw [N.out]; rfl, by rw [N.out]; exact HH.out.drewN q1, blw_drewN _ _ _, shs_drewN _ _ _⟩
  · have D0 := Lib.hid (DInv.begin hk ha hp)
    have nk : ((k : Int) == -1) = false := by simp
    clear ha hp
    go_wp2_with fail
    go_loopw [5, 6] (fun iv jv wr => ∃ (i j : Nat) (d : List Int), iv = .int .i64 i ∧ jv = .int .i64 j ∧ DInv l p j i d ∧ Hol wr b off d ∧ Below n0 w wr ∧ Shs b w wr) (fun _ jv _ => l.length - (intOf jv).toNat)
    case atStart => exact ⟨k, k + 1, l, rfl, by go_num, D0.out, HH.out.drewN q1, blw_drewN _ _ _, shs_drewN _ _ _⟩
    case round =>
      obtain ⟨i, j, d, rfl, rfl, hD, hh, hB, hS⟩ := hrel
      have HSh := Lib.hid hS
      clear hS
      have ij := hD.2.1
      have jl := hD.2.2.1
      have dl := hD.1
      have HD := Lib.hid hD
      have HHd := Lib.hid hh
      have HB := Lib.hid hB
      clear hD hh hB D0
      by_cases hlt : j < l.length
      · have ck := (HHd.out j (by omega)).1
        obtain ⟨ci, fi⟩ := HHd.out i (by omega)
        rw [HD.out.2.2.2.2 j (Nat.le_refl _)] at ck
        obtain ⟨x, hx⟩ : ∃ x, x = l.getD j 0 := ⟨_, rfl⟩
        rw [← hx] at ck
        have HX := Lib.hid hx
        have K := Lib.hid (HC.out x wr HB.out)
        clear hx
        go_wp2_with fail
        clear ck
        refine K.out.mono ?_
        rintro e w2 ⟨rfl, q2, rfl⟩
        clear K
        rcases hp : p x with _ | _
        · have M := HHd.out.drewN q2
          have S := M.store (n0 := n0) i x (by omega) HN.out
          have SB := Lib.hid ((HB.out.trans (blw_drewN _ _ q2)).trans S.2)
          have SH := Lib.hid S.1
          have SS := Lib.hid ((HSh.out.trans (shs_drewN _ _ q2)).trans (shs_cell b b (off + i) (wr.drewN q2) (.int .i64 x)))
          have N1 := Lib.hid (HD.out.keep hlt (by rw [← HX.out]; exact hp))
          rw [← HX.out] at N1
          clear S M
          go_wp2
          go_roundw
          case rel => exact ⟨i + 1, j + 1, d.set i x, by go_num, by go_num, N1.out, SH.out, SB.out, SS.out⟩
          case measure => simp [intOf]; omega
        · have N1 := Lib.hid (HD.out.skip hlt (by rw [← HX.out]; exact hp))
          have SB := Lib.hid (HB.out.trans (blw_drewN _ _ q2))
          have SH := Lib.hid (HHd.out.drewN q2)
          have SS := Lib.hid (HSh.out.trans (shs_drewN b wr q2))
          go_wp2
          go_roundw
          case rel => exact ⟨i, j + 1, d, rfl, by go_num, N1.out, SH.out, SB.out, SS.out⟩
          case measure => simp [intOf]; omega
      · obtain rfl : j = l.length := by omega
        have hcl : ∀ ty, (Builtin.clear_ #[34] ty #[.slice (some ⟨b, off + i, none⟩) (l.length - i) (cap - i)]).run Tryz.prog wr = .ok (.tuple #[]) (wr.setCells b (off + i) (List.replicate (l.length - i) (.int .i64 0))) :=
          fun ty => Lib.run_clear_slice wr _ _ ty _ Tryz.underlying34 (fun _ => by kernel_rfl) rfl rfl b (off + i) _ _ (by omega) (fun t ht => by rw [show off + i + t = off + (i + t) by omega, (HHd.out (i + t) (by omega)).1]; rfl) (fun t ht => by rw [show off + i + t = off + (i + t) by omega]; exact (HHd.out (i + t) (by omega)).2)
        have S := HHd.out.cut (n0 := n0) i (List.replicate (l.length - i) (.int .i64 0)) (by omega) HN.out
        have N := HD.out.done
        have N2 : Hid ((l.filter (fun x => !p x)).length = i) := Lib.hid (by rw [← N, List.length_take]; omega)
        rw [N] at S
        have SH := Lib.hid S.1
        have SB := Lib.hid (HB.out.trans S.2)
        have SS := Lib.hid (HSh.out.trans (shs_cells b b (List.replicate (l.length - i) (.int .i64 0)) (off + i) wr))
        clear S N
        go_wp2
        go_ret
        exact ⟨by rw [N2.out]; rfl, SH.out, SB.out, SS.out⟩
end Go.Proofs.YthdohcjingfpoaaGreatDoor
