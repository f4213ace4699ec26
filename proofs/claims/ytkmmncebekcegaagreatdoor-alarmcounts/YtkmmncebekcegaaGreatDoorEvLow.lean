/-
  What is proved here: plain words on an event and what is wrong with it; words on an event that lies in memory; what package event's isFrom, Alarm and isEmpty answer (contracts over the translation).
-/
import Derived.Test.YtkmmncebekcegaaGreatDoorClk
import Derived.Test.YtkmmncebekcegaaGreatDoorBD
namespace Go.Proofs.YtkmmncebekcegaaGreatDoor
open Go.RowKit Cal Txt

/-- An event. -/
structure Evt where
  name : ByteArray
  text : ByteArray
  start : Int
  len : Int
  rep : Bool
  rule : Rl
  more : List Int
  nots : List Int
  chg : List (Int × Int)
  alm : List (Int × Bool × Int × Int)
/-- What is wrong with an alarm; 0: nothing. -/
def alF (x : Int × Bool × Int × Int) : Int :=
  if (-100000 ≤ x.1 ∧ x.1 ≤ 100000) ∧ (0 ≤ x.2.2.1 ∧ x.2.2.1 ≤ 5) ∧ ((x.2.2.1 = 0 ∧ x.2.2.2 = 0) ∨ (¬ x.2.2.1 = 0 ∧ 1 ≤ x.2.2.2 ∧ x.2.2.2 ≤ 10000)) then 0 else 1
/-- Is a byte a letter; may it stand in a text? -/
def letB (b : UInt8) : Bool := decide (97 ≤ b.toNat ∧ b.toNat ≤ 122)
def sgnB (b : UInt8) : Bool := decide (32 ≤ b.toNat ∧ b.toNat ≤ 126)
def nmB (s : ByteArray) : Bool := decide (1 ≤ s.size ∧ s.size ≤ 8) && s.data.toList.all letB
def txB (s : ByteArray) : Bool := decide (s.size ≤ 60) && s.data.toList.all sgnB
/-- Is a rule empty? -/
def emB (r : Rl) : Bool := decide ((r.freq = 0 ∧ r.every = 0 ∧ r.count = 0 ∧ r.till = 0) ∧ r.months.length = 0 ∧ r.days.length = 0 ∧ r.weeks.length = 0 ∧ r.pick.length = 0)
def ruF (e : Evt) : Int := if e.rep = true then rf e.rule else if emB e.rule = true then 0 else 3
/-- Is a change one that may be? -/
def chB (c : Int × Int) : Bool := ist c.1 && ((c.2 == 0) || ist c.2)
/-- Do changes rise? -/
def criB (l : List (Int × Int)) : Bool := (List.range (l.length - 1)).all fun i => decide ((l.getD i (0, 0)).1 < (l.getD (i + 1) (0, 0)).1)
def full (e : Evt) : Bool := decide (100 < e.more.length ∨ 100 < e.nots.length ∨ 100 < e.chg.length ∨ 4 < e.alm.length)
def liF (e : Evt) : Int := if full e = true then 4 else if (e.more.all ist && e.nots.all ist && e.chg.all chB) = false then 1 else if (risB e.more && risB e.nots && criB e.chg) = false then 7 else 0
/-- The first fault of alarms. -/
def amF : List (Int × Bool × Int × Int) → Int
  | [] => 0
  | x :: l => if alF x = 0 then amF l else alF x
/-- What is wrong with an event; 0: nothing. -/
def evF (e : Evt) : Int := if (nmB e.name && txB e.text) = false then 2 else if (ist e.start && decide (0 ≤ e.len ∧ e.len ≤ 100000)) = false then 1 else if ¬ ruF e = 0 then ruF e else if ¬ liF e = 0 then liF e else amF e.alm
/-- A slice reads as a list of alarms. -/
def Alms (w : World) (v : Value) (l : List (Int × Bool × Int × Int)) : Prop :=
  ∃ a cap, v = .slice a l.length cap ∧ (l = [] ∨ ∃ b off, a = some ⟨b, off, none⟩ ∧ ∀ i, i < l.length → w.cell? ⟨b, off + i * 4, none⟩ = some (.int .i64 (l.getD i (0, false, 0, 0)).1) ∧ w.cell? ⟨b, off + i * 4 + 1, none⟩ = some (.bool (l.getD i (0, false, 0, 0)).2.1) ∧ w.cell? ⟨b, off + i * 4 + 2, none⟩ = some (.int .i64 (l.getD i (0, false, 0, 0)).2.2.1) ∧ w.cell? ⟨b, off + i * 4 + 3, none⟩ = some (.int .i64 (l.getD i (0, false, 0, 0)).2.2.2))
theorem ecell_in {W : World} {b o : Nat} {v : Value} (k : W.cell? ⟨b, o, none⟩ = some v) : b < W.heap.size := by
  rcases Nat.lt_or_ge b W.heap.size with q | q
  · exact q
  · simp [World.cell?, Array.getElem?_eq_none q] at k
theorem Alms.on {w w' : World} {v : Value} {l : List (Int × Bool × Int × Int)} (h : Alms w v l) (q : Below w.heap.size w w') : Alms w' v l := by
  obtain ⟨a, cap, e, hc⟩ := h
  refine ⟨a, cap, e, ?_⟩
  rcases hc with hc | ⟨b, off, ea, hc⟩
  · exact Or.inl hc
  · refine Or.inr ⟨b, off, ea, fun i hi => ?_⟩
    obtain ⟨k0, k1, k2, k3⟩ := hc i hi
    have hb : b < w.heap.size := ecell_in k0
    exact ⟨(q.cell (p := ⟨b, off + i * 4, none⟩) hb).trans k0, (q.cell (p := ⟨b, off + i * 4 + 1, none⟩) hb).trans k1, (q.cell (p := ⟨b, off + i * 4 + 2, none⟩) hb).trans k2, (q.cell (p := ⟨b, off + i * 4 + 3, none⟩) hb).trans k3⟩
/-- The four values of an event that are slices. -/
structure Evs where
  vm : Value
  vd : Value
  vw : Value
  vp : Value
  vo : Value
  vn : Value
  vc : Value
  va : Value
/-- An event's cells. -/
abbrev ecells (e : Evt) (s : Evs) : Array Value := #[.string e.name, .string e.text, .int .i64 e.start, .int .i64 e.len, .bool e.rep, .int .i64 e.rule.freq, .int .i64 e.rule.every, .int .i64 e.rule.count, .int .i64 e.rule.till, s.vm, s.vd, s.vw, s.vp, s.vo, s.vn, s.vc, s.va]
/-- An event's cells lie in a block. -/
def EBox (W : World) (b : Nat) (e : Evt) (s : Evs) : Prop :=
  (W.cell? ⟨b, 0, none⟩ = some (.string e.name) ∧ W.cell? ⟨b, 1, none⟩ = some (.string e.text) ∧ W.cell? ⟨b, 2, none⟩ = some (.int .i64 e.start) ∧ W.cell? ⟨b, 3, none⟩ = some (.int .i64 e.len) ∧ W.cell? ⟨b, 4, none⟩ = some (.bool e.rep)) ∧
  (W.cell? ⟨b, 5, none⟩ = some (.int .i64 e.rule.freq) ∧ W.cell? ⟨b, 6, none⟩ = some (.int .i64 e.rule.every) ∧ W.cell? ⟨b, 7, none⟩ = some (.int .i64 e.rule.count) ∧ W.cell? ⟨b, 8, none⟩ = some (.int .i64 e.rule.till) ∧ W.cell? ⟨b, 9, none⟩ = some s.vm ∧ W.cell? ⟨b, 10, none⟩ = some s.vd ∧ W.cell? ⟨b, 11, none⟩ = some s.vw ∧ W.cell? ⟨b, 12, none⟩ = some s.vp) ∧
  (W.cell? ⟨b, 13, none⟩ = some s.vo ∧ W.cell? ⟨b, 14, none⟩ = some s.vn ∧ W.cell? ⟨b, 15, none⟩ = some s.vc ∧ W.cell? ⟨b, 16, none⟩ = some s.va)
theorem EBox.lt {W : World} {b : Nat} {e : Evt} {s : Evs} (h : EBox W b e s) : b < W.heap.size := ecell_in h.1.1
theorem EBox.on {W W' : World} {b : Nat} {e : Evt} {s : Evs} (h : EBox W b e s) (q : Below W.heap.size W W') : EBox W' b e s := by
  have l := h.lt
  have k : ∀ (o : Nat) (v : Value), W.cell? ⟨b, o, none⟩ = some v → W'.cell? ⟨b, o, none⟩ = some v := fun o v z => (q.cell (p := ⟨b, o, none⟩) l).trans z
  obtain ⟨⟨a0, a1, a2, a3, a4⟩, ⟨b0, b1, b2, b3, b4, b5, b6, b7⟩, c0, c1, c2, c3⟩ := h
  exact ⟨⟨k _ _ a0, k _ _ a1, k _ _ a2, k _ _ a3, k _ _ a4⟩, ⟨k _ _ b0, k _ _ b1, k _ _ b2, k _ _ b3, k _ _ b4, k _ _ b5, k _ _ b6, k _ _ b7⟩, k _ _ c0, k _ _ c1, k _ _ c2, k _ _ c3⟩
theorem EBox.new (W : World) (e : Evt) (s : Evs) (t : TypeId) : EBox (W.alloc (.cells (ecells e s) t)) W.heap.size e s :=
  ⟨⟨by simp, by simp, by simp, by simp, by simp⟩, ⟨by simp, by simp, by simp, by simp, by simp, by simp, by simp, by simp⟩, by simp, by simp, by simp, by simp⟩
/-- What lies behind an event's slices. -/
def EvB (w : World) (e : Evt) (s : Evs) : Prop :=
  Ints w s.vm e.rule.months ∧ Ints w s.vd e.rule.days ∧ Nths w s.vw e.rule.weeks ∧ Ints w s.vp e.rule.pick ∧ Ints w s.vo e.more ∧ Ints w s.vn e.nots ∧ Nths w s.vc e.chg ∧ Alms w s.va e.alm
theorem EvB.on {w w' : World} {e : Evt} {s : Evs} (h : EvB w e s) (q : Below w.heap.size w w') : EvB w' e s := by
  obtain ⟨a, b, c, d, f, g, i, j⟩ := h
  exact ⟨a.on q, b.on q, c.on q, d.on q, f.on q, g.on q, i.on q, j.on q⟩
/-- The value of a rule. -/
abbrev rval (e : Evt) (s : Evs) : Value := .agg #[.int .i64 e.rule.freq, .int .i64 e.rule.every, .int .i64 e.rule.count, .int .i64 e.rule.till, s.vm, s.vd, s.vw, s.vp]
theorem EvB.rule {w : World} {e : Evt} {s : Evs} (h : EvB w e s) : RuleIn w (rval e s) e.rule := ⟨_, _, _, _, rfl, h.1, h.2.1, h.2.2.1, h.2.2.2.1⟩

theorem isFrom_any (a n b : Int) (w : World) :
    Calls Tryz.prog 31 #[.int .i64 a, .int .i64 n, .int .i64 b] w fun e w' => e = .returned (.bool (decide (a ≤ n ∧ n ≤ b))) ∧ w' = w := by
  by_cases h : a ≤ n
  all_goals
    go_enter Tryz.func31, Tryz.ntmps31
    go_wp2
    go_ret
    exact ⟨ret_bool (by rw [Bool.eq_iff_iff]; simp; omega), rfl⟩
theorem efault_0 : fault 0 = .nilIface := rfl
theorem efault_1 : fault 1 = errRange := rfl
theorem efault_ne {k : Int} (h : ¬ k = 0) : fault k = .iface 64 (.int .i64 k) := if_neg h
set_option maxHeartbeats 1000000 in
theorem ealarm_any (o : Int) (b : Bool) (r t : Int) (w : World) :
    Calls Tryz.prog 34 #[.agg #[.int .i64 o, .bool b, .int .i64 r, .int .i64 t]] w fun e w' => e = .returned (fault (alF (o, b, r, t))) ∧ Below w.heap.size w w' := by
  have HB := Lib.hid ((Below.refl w.heap.size w).alloc (Nat.le_refl _) (.cells #[.int .i64 o, .bool b, .int .i64 r, .int .i64 t] 49))
  rcases h0 : (r != 0) with _ | _
  · rcases h1 : decide (-100000 ≤ o ∧ o ≤ 100000) with _ | _
    all_goals
      rcases h2 : decide (0 ≤ r ∧ r ≤ 5) with _ | _
      all_goals
        rcases h3 : decide (0 ≤ t ∧ t ≤ 0) with _ | _
        all_goals
          first
            | (have N1 : Hid (alF (o, b, r, t) = 0) := Lib.hid (if_pos (by simp at h0 h1 h2 h3; simp; omega))
               go_enter Tryz.func34, Tryz.ntmps34
               go_wp2_with (go_at_call 31; refine (isFrom_any _ _ _ _).mono ?_; rintro e w' ⟨rfl, rfl⟩; first | rw [h1] | rw [h2] | rw [h3])
               go_ret
               exact ⟨by rw [N1.out]; rfl, HB.out⟩)
            | (have N1 : Hid (alF (o, b, r, t) = 1) := Lib.hid (if_neg (by simp at h0 h1 h2 h3; simp; omega))
               go_enter Tryz.func34, Tryz.ntmps34
               go_wp2_with (go_at_call 31; refine (isFrom_any _ _ _ _).mono ?_; rintro e w' ⟨rfl, rfl⟩; first | rw [h1] | rw [h2] | rw [h3])
               go_ret
               exact ⟨by rw [N1.out]; rfl, HB.out⟩)
  · rcases h1 : decide (-100000 ≤ o ∧ o ≤ 100000) with _ | _
    all_goals
      rcases h2 : decide (0 ≤ r ∧ r ≤ 5) with _ | _
      all_goals
        rcases h3 : decide (1 ≤ t ∧ t ≤ 10000) with _ | _
        all_goals
          first
            | (have N1 : Hid (alF (o, b, r, t) = 0) := Lib.hid (if_pos (by simp at h0 h1 h2 h3; simp; omega))
               go_enter Tryz.func34, Tryz.ntmps34
               go_wp2_with (go_at_call 31; refine (isFrom_any _ _ _ _).mono ?_; rintro e w' ⟨rfl, rfl⟩; first | rw [h1] | rw [h2] | rw [h3])
               go_ret
               exact ⟨by rw [N1.out]; rfl, HB.out⟩)
            | (have N1 : Hid (alF (o, b, r, t) = 1) := Lib.hid (if_neg (by simp at h0 h1 h2 h3; simp; omega))
               go_enter Tryz.func34, Tryz.ntmps34
               go_wp2_with (go_at_call 31; refine (isFrom_any _ _ _ _).mono ?_; rintro e w' ⟨rfl, rfl⟩; first | rw [h1] | rw [h2] | rw [h3])
               go_ret
               exact ⟨by rw [N1.out]; rfl, HB.out⟩)
set_option maxHeartbeats 1000000 in
theorem isEmpty_any (r : Rl) (v : Value) (w : World) (hv : RuleIn w v r) :
    Calls Tryz.prog 63 #[v] w fun e w' => e = .returned (.bool (emB r)) ∧ Below w.heap.size w w' := by
  obtain ⟨_, _, _, _, rfl, ⟨am, cm, rfl, _⟩, ⟨ad, cd, rfl, _⟩, ⟨aw, cw, rfl, _⟩, ap, cp, rfl, _⟩ := hv
  obtain ⟨E, hE⟩ : ∃ E, E = emB r := ⟨_, rfl⟩
  rw [← hE]
  unfold emB at hE
  obtain ⟨f, ev, c, u, ms, ds, ws, ps⟩ := r
  simp only at hE ⊢
  generalize ms.length = l1 at hE ⊢
  generalize ds.length = l2 at hE ⊢
  generalize ws.length = l3 at hE ⊢
  generalize ps.length = l4 at hE ⊢
  have HE := Lib.hid hE
  clear hE
  have HB := Lib.hid ((Below.refl w.heap.size w).alloc (Nat.le_refl _) (.cells #[.int .i64 f, .int .i64 ev, .int .i64 c, .int .i64 u, .slice am l1 cm, .slice ad l2 cd, .slice aw l3 cw, .slice ap l4 cp] 28))
  have fin : ∀ {a : Bool}, (a = decide ((f = 0 ∧ ev = 0 ∧ c = 0 ∧ u = 0) ∧ l1 = 0 ∧ l2 = 0 ∧ l3 = 0 ∧ l4 = 0)) → a = E := fun q => q.trans HE.out.symm
  go_enter Tryz.func63, Tryz.ntmps63
  rcases h1 : (f == 0) with _ | _
  · go_wp2
    go_ret
    exact ⟨ret_bool (fin (by simp at h1; rw [eq_comm]; simp [h1])), HB.out⟩
  rcases h2 : (ev == 0) with _ | _
  · go_wp2
    go_ret
    exact ⟨ret_bool (fin (by simp at h2; rw [eq_comm]; simp [h2])), HB.out⟩
  rcases h3 : (c == 0) with _ | _
  · go_wp2
    go_ret
    exact ⟨ret_bool (fin (by simp at h3; rw [eq_comm]; simp [h3])), HB.out⟩
  rcases h4 : (u == 0) with _ | _
  · go_wp2
    go_ret
    exact ⟨ret_bool (fin (by simp at h4; rw [eq_comm]; simp [h4])), HB.out⟩
  rcases h5 : ((l1 : Int) == 0) with _ | _
  · go_wp2
    go_ret
    exact ⟨ret_bool (fin (by simp at h5; rw [eq_comm]; simp [h5])), HB.out⟩
  rcases h6 : ((l2 : Int) == 0) with _ | _
  · go_wp2
    go_ret
    exact ⟨ret_bool (fin (by simp at h6; rw [eq_comm]; simp [h6])), HB.out⟩
  rcases h7 : ((l3 : Int) == 0) with _ | _
  · go_wp2
    go_ret
    exact ⟨ret_bool (fin (by simp at h7; rw [eq_comm]; simp [h7])), HB.out⟩
  rcases h8 : ((l4 : Int) == 0) with _ | _
  · go_wp2
    go_ret
    exact ⟨ret_bool (fin (by simp at h8; rw [eq_comm]; simp [h8])), HB.out⟩
  go_wp2
  go_ret
  exact ⟨ret_bool (fin (by simp at h1 h2 h3 h4 h5 h6 h7 h8; rw [eq_comm]; simp [h1, h2, h3, h4, h5, h6, h7, h8])), HB.out⟩
theorem blw_cells {B g : Nat} (hg : B ≤ g) : ∀ (vs : List Value) (o : Nat) (w : World), Below B w (w.setCells g o vs)
  | [], _, w => Below.refl B w
  | v :: r, o, w => ((Below.refl B w).setCell (p := ⟨g, o, none⟩) hg v).trans (blw_cells hg r (o + 1) _)
end Go.Proofs.YtkmmncebekcegaaGreatDoor
