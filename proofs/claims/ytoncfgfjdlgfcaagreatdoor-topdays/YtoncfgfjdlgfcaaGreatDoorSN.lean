/-
  What is proved here: what package seq's First answers (a contract over the translation).
  What is proved here: what package seq's Between, Has and Count answer (contracts over the translation).
  What is proved here: what package seq's Next answers (a contract over the translation).
  What is proved here: what package seq's First, Count, Between, Next and Has answer, each in one row, over the days of the rule in all.
-/
import Derived.Test.YtoncfgfjdlgfcaaGreatDoorBJ
import Derived.Deep.RegionHeld3
import Derived.Test.YtoncfgfjdlgfcaaGreatDoorBK
namespace Go.Proofs.YtoncfgfjdlgfcaaGreatDoor
open Go.RowKit Cal Txt

/-- A list, or an error. -/
def LstA (w : World) (k : Int) (l : List Int) (e : Ending) (w' : World) : Prop :=
  Below w.heap.size w w' ∧ ((k ≠ 0 ∧ e = .returned (.tuple #[.slice none 0 0, fault k])) ∨ (k = 0 ∧ ∃ v, e = .returned (.tuple #[v, .nilIface]) ∧ Ints w' v l))
/-- What is wrong with what First is asked. -/
def ff (r : Rl) (s n : Int) : Int := if sf r s = 0 then (if 0 ≤ n ∧ n ≤ 200 then 0 else 1) else sf r s
end Go.Proofs.YtoncfgfjdlgfcaaGreatDoor
namespace Go.Proofs.YtoncfgfjdlgfcaaGreatDoor
open Go.RowKit Cal Txt

/-- What is wrong with what Between is asked. -/
def bf (r : Rl) (s fr t : Int) : Int := if sf r s = 0 then (if 200 < (btL r s fr t).length then 4 else 0) else sf r s
set_option maxRecDepth 100000 in
set_option maxHeartbeats 4000000 in
theorem betw_any (r : Rl) (v : Value) (s fr t : Int) (w : World) (hv : RuleIn w v r) (hT : Tab w) (hfr : fr ≤ s ∨ fr ≤ 9223372036854775807) :
    Calls Tryz.prog 37 #[v, .int .i64 s, .int .i64 fr, .int .i64 t] w (LstA w (bf r s fr t) (btL r s fr t)) := by
  obtain ⟨am, ad, aw, ap, cm, cd, cw, cp, rfl⟩ := hv.form
  obtain ⟨W, hW⟩ : ∃ W, W = w.alloc (.cells #[.int .i64 r.freq, .int .i64 r.every, .int .i64 r.count, .int .i64 r.till, .slice am r.months.length cm, .slice ad r.days.length cd, .slice aw r.weeks.length cw, .slice ap r.pick.length cp] 29) := ⟨_, rfl⟩
  have hB : Below w.heap.size w W := by rw [hW]; exact (Below.refl _ _).alloc (Nat.le_refl _) _
  have zW : W.heap.size = w.heap.size + 1 := by rw [hW]; simp
  have KB := Lib.hid (between_any r _ s fr t W (hv.on hB) (hT.below hB) hfr)
  have HB := Lib.hid hB
  clear hv hT hB hfr
  go_enter Tryz.func37, Tryz.ntmps37
  go_wp2_with fail
  rw [← hW]
  clear hW
  refine KB.out.mono ?_
  rintro e w3 ⟨hb3, hc⟩
  have B3 := Lib.hid (HB.out.trans (hb3.mono HB.out.size))
  clear KB
  rcases hc with ⟨k1, rfl⟩ | ⟨k1, k2, lb, rfl, hI⟩
  · have FE : Hid (bf r s fr t = sf r s) := Lib.hid (if_neg k1)
    have K1 := Lib.hid k1
    rw [fault_ne k1]
    clear k1 hb3
    go_wp2
    exact bodyPost_ret (v := .tuple #[.slice none 0 0, .iface 95 (.int .i64 (sf r s))]) (by simp [results, Tryz.results37, go_sem]) rfl ⟨B3.out, Or.inl ⟨by rw [FE.out]; exact K1.out, by rw [FE.out, fault_ne K1.out]⟩⟩
  · have z3 : W.heap.size + 4 ≤ w3.heap.size := k2
    have KA := Lib.hid (atMost_any 201 lb _ _ w3 _ hI (by omega) (fun b hb => ⟨by have q : b < W.heap.size + 4 := hb.2; omega, hb.1⟩) (by omega) (by omega))
    have K1 := Lib.hid k1
    clear hI k1 k2 hb3
    go_wp2_with fail
    refine KA.out.mono ?_
    rintro e w4 ⟨v4, rfl, i4, b4⟩
    have B4 := Lib.hid (B3.out.trans (b4.mono (by omega)))
    have I4 := Lib.hid i4
    obtain ⟨a4, c4, rfl, _⟩ := i4
    have hl : ((btL r s fr t).take (201 : Int).toNat).length = min 201 (btL r s fr t).length := List.length_take
    obtain ⟨m, hm⟩ : ∃ m, m = ((btL r s fr t).take (201 : Int).toNat).length := ⟨_, rfl⟩
    rw [← hm]
    rw [← hm] at hl
    have HM := Lib.hid hm
    clear b4 KA hm
    by_cases hg : 200 < (btL r s fr t).length
    · have FE : Hid (bf r s fr t = 4) := Lib.hid ((if_pos K1.out).trans (if_pos hg))
      have t1 : decide ((m : Int) > 200) = true := decide_eq_true (by omega)
      clear hg hl
      go_wp2
      exact bodyPost_ret (v := .tuple #[.slice none 0 0, .iface 95 (.int .i64 4)]) (by simp [results, Tryz.results37, go_sem]) rfl ⟨B4.out, Or.inl ⟨by rw [FE.out]; decide, by rw [FE.out]; rfl⟩⟩
    · have FE : Hid (bf r s fr t = 0) := Lib.hid ((if_pos K1.out).trans (if_neg hg))
      have t1 : decide ((m : Int) > 200) = false := decide_eq_false (by omega)
      have ET : Hid ((btL r s fr t).take (201 : Int).toNat = btL r s fr t) := Lib.hid (List.take_of_length_le (by show (btL r s fr t).length ≤ 201; omega))
      clear hg hl
      go_wp2
      exact bodyPost_ret (v := .tuple #[.slice a4 m c4, .nilIface]) (by simp [results, Tryz.results37, go_sem]) rfl ⟨B4.out, Or.inr ⟨FE.out, _, rfl, by have q := I4.out; rw [← HM.out, ET.out] at q; exact q⟩⟩
end Go.Proofs.YtoncfgfjdlgfcaaGreatDoor
namespace Go.Proofs.YtoncfgfjdlgfcaaGreatDoor
open Go.RowKit Go.Shelf Cal Txt
attribute [local go_sem] Oper.semAt_some

/-- The first one behind a day. -/
def stN (a : Int) (o : Option Int) (n : Int) : Option Int × Bool := if a < n then (some n, false) else (o, true)
theorem run_nxt (a : Int) : ∀ xs : List Int, run (stN a) none xs = (xs.find? (fun n => decide (a < n)), (xs.find? (fun n => decide (a < n))).isNone)
  | [] => rfl
  | n :: xs => by
    by_cases h : a < n
    · rw [run_no (show stN a none n = (some n, false) from if_pos h), List.find?_cons_of_pos (by simpa using h)]
      rfl
    · rw [run_yes (show stN a none n = (none, true) from if_neg h), List.find?_cons_of_neg (by simpa using h)]
      exact run_nxt a xs
/-- What Next answers. -/
def NxtV : Option Int → Value
  | some n => .tuple #[.int .i64 n, .nilIface]
  | none => .tuple #[.int .i64 0, .iface 95 (.int .i64 5)]
/-- The three boxes of Next. -/
def NxI (z : Nat) (a : Int) (u v : Value) (S : Nat → Prop) (X : World) : Prop := (∀ b, S b ↔ (b = z + 1 ∨ b = z + 2 ∨ b = z + 3)) ∧ Boxed X (z + 1) 3 (.int .i64 a) ∧ Boxed X (z + 2) 3 u ∧ Boxed X (z + 3) 35 v
theorem NxI.frm {z n0 : Nat} {a : Int} {σ : Type} (u v : σ → Value) (bd : σ → Prop) (h : n0 ≤ z + 1) : Frm n0 (fun (o : σ) S X => bd o ∧ NxI z a (u o) (v o) S X) := by
  refine ⟨fun o S X h b hb => ?_, fun o S X X' h q same => ?_⟩
  · obtain ⟨_, e, c1, c2, c3⟩ := h
    rcases (e b).1 hb with rfl | rfl | rfl
    · exact ⟨by omega, c1.lt⟩
    · exact ⟨by omega, c2.lt⟩
    · exact ⟨by omega, c3.lt⟩
  · obtain ⟨b0, e, c1, c2, c3⟩ := h
    exact ⟨b0, e, bxd_same c1 (same _ ((e _).2 (Or.inl rfl))), bxd_same c2 (same _ ((e _).2 (Or.inr (Or.inl rfl)))), bxd_same c3 (same _ ((e _).2 (Or.inr (Or.inr rfl))))⟩
theorem nx_cells {X : World} {z : Nat} {t t' : TypeId} {u0 v0 : Value} (h2 : Boxed X (z + 2) t u0) (h3 : Boxed X (z + 3) t' v0) (u u' : Value) :
    Boxed ((X.setCell ⟨z + 2, 0, none⟩ u).setCell ⟨z + 3, 0, none⟩ u') (z + 2) t u ∧ Boxed ((X.setCell ⟨z + 2, 0, none⟩ u).setCell ⟨z + 3, 0, none⟩ u') (z + 3) t' u' ∧ (∀ b, b ≠ z + 2 → b ≠ z + 3 → ((X.setCell ⟨z + 2, 0, none⟩ u).setCell ⟨z + 3, 0, none⟩ u').heap[b]? = X.heap[b]?) :=
  ⟨(h2.set u).other (by omega) _, (h3.other (by omega) _).set u', fun b h h' => (Below.heap_setCell _ _ _ _ h').trans (Below.heap_setCell _ _ _ _ h)⟩
theorem bxd_put {X : World} {b D : Nat} {t : TypeId} {u : Value} (h : Boxed X b t u) (hd : b ≠ D) (o : Obj) : Boxed (X.putObj D o) b t u := bxd_same h (World.putObj_heap_other hd)
end Go.Proofs.YtoncfgfjdlgfcaaGreatDoor
namespace Go.Proofs.YtoncfgfjdlgfcaaGreatDoor
open Go.RowKit Cal Txt

theorem find_same {p q : Int → Bool} : ∀ {l : List Int}, (∀ x ∈ l, p x = q x) → l.find? p = l.find? q
  | [], _ => rfl
  | x :: l, h => by
    rw [List.find?_cons, List.find?_cons, h x (by simp), find_same (fun y hy => h y (List.mem_cons_of_mem _ hy))]
/-- What is next behind a number. -/
def nxt (r : Rl) (s a : Int) : Option Int := (DAYS r s).find? (fun n => decide (a < n))
def nxX (r : Rl) (s a : Int) : Int := if sf r s = 0 then (nxt r s a).getD 0 else 0
def nxG (r : Rl) (s a : Int) : Int := if sf r s = 0 then (if (nxt r s a).isSome = true then 0 else 5) else sf r s
/-- The first ones. -/
def fsL (r : Rl) (s n : Int) : List Int := if ff r s n = 0 then (DAYS r s).take n.toNat else []
/-- How many. -/
def ctN (r : Rl) (s : Int) : Int := if sf r s = 0 then ((min 201 (DAYS r s).length : Nat) : Int) else 0
/-- Those between. -/
def bwA (r : Rl) (s fr t : Int) : List Int := (DAYS r s).filter (fun x => decide (fr ≤ x ∧ x ≤ t))
def bwL (r : Rl) (s fr t : Int) : List Int := if sf r s = 0 ∧ (bwA r s fr t).length ≤ 200 then bwA r s fr t else []
def bwF (r : Rl) (s fr t : Int) : Int := if sf r s = 0 then (if 200 < (bwA r s fr t).length then 4 else 0) else sf r s
/-- Is it one? -/
def hsB (r : Rl) (s n : Int) : Bool := decide (sf r s = 0 ∧ bwA r s n n ≠ [])
theorem fault_not {k : Int} (h : k ≠ 0) : fault k = .iface 95 (.int .i64 k) := if_neg h
theorem betw_uni (r : Rl) (v : Value) (s fr t : Int) (w : World) (hv : RuleIn w v r) (hT : Tab w) (hfr : fr ≤ 9223372036854775807) :
    Calls Tryz.prog 37 #[v, .int .i64 s, .int .i64 fr, .int .i64 t] w fun e w' => ∃ v2, e = .returned (.tuple #[v2, fault (bwF r s fr t)]) ∧ Ints w' v2 (bwL r s fr t) ∧ Below w.heap.size w w' := by
  have e0 : bf r s fr t = bwF r s fr t := by
    unfold bf bwF
    by_cases h : sf r s = 0
    · rw [if_pos h, if_pos h, btL_eq h]; rfl
    · rw [if_neg h, if_neg h]
  refine (betw_any r v s fr t w hv hT (Or.inr hfr)).mono ?_
  rw [e0]
  rintro e w' ⟨hb, ⟨h, rfl⟩ | ⟨h, v2, rfl, hx⟩⟩
  · refine ⟨_, rfl, ?_, hb⟩
    have : bwL r s fr t = [] := by
      unfold bwL
      rw [if_neg]
      intro q
      apply h
      unfold bwF
      rw [if_pos q.1, if_neg (by omega)]
    rw [this]
    exact ⟨none, 0, rfl, Or.inl rfl⟩
  · refine ⟨v2, by rw [h]; rfl, ?_, hb⟩
    have h0 : sf r s = 0 ∧ (bwA r s fr t).length ≤ 200 := by
      unfold bwF at h
      split at h
      · split at h
        · cases h
        · rename_i g1 g2; exact ⟨g1, by omega⟩
      · rename_i g; exact absurd h g
    unfold bwL
    rw [if_pos h0]
    rw [btL_eq h0.1] at hx
    exact hx
/-! The document's lists. -/
theorem dsq_from {r : Rl} {s fr to t : Int} (h : sf r s = 0) (e : t = to ∨ (t = 109573 ∧ 109573 < to)) : ((DAYS r s).filter (fun x => decide (x ≤ t))).filter (fun x => decide (fr ≤ x)) = bwA r s fr to := by
  unfold bwA
  rw [List.filter_filter]
  refine List.filter_congr fun x hx => ?_
  have := DAYS_in h hx
  rw [Bool.eq_iff_iff]
  simp
  omega
theorem nxt_low {r : Rl} {s a t : Int} {x : Int} (h : ((DAYS r s).filter (fun x => decide (x ≤ t))).find? (fun n => decide (a < n)) = some x) : nxt r s a = some x := by
  rw [List.find?_filter] at h
  unfold nxt
  have hr := DAYS_rise r s
  generalize DAYS r s = D at h hr
  induction D with
  | nil => cases h
  | cons d D ih =>
    rw [List.pairwise_cons] at hr
    by_cases h1 : a < d
    · rw [List.find?_cons_of_pos (by simpa using h1)]
      by_cases h2 : d ≤ t
      · rw [List.find?_cons_of_pos (by simp; omega)] at h
        exact h
      · rw [List.find?_cons_of_neg (by simp; omega)] at h
        have hm := List.mem_of_find?_eq_some h
        have hp := List.find?_some h
        have := hr.1 _ hm
        simp at hp
        omega
    · rw [List.find?_cons_of_neg (by simpa using h1)]
      rw [List.find?_cons_of_neg (by simp; omega)] at h
      exact ih h hr.2
theorem nxt_last {r : Rl} {s a : Int} (hs : sf r s = 0) (h : ((DAYS r s).filter (fun x => decide (x ≤ 109573))).find? (fun n => decide (a < n)) = none) : nxt r s a = none := by
  rwa [List.filter_eq_self.2 (fun x hx => by have := DAYS_in hs hx; simp; omega)] at h
theorem nxt_far {r : Rl} {s a : Int} (hs : sf r s = 0) (h : 109573 ≤ a) : nxt r s a = none := by
  unfold nxt
  rw [List.find?_eq_none]
  intro x hx
  have := DAYS_in hs hx
  simp
  omega
theorem has_in {r : Rl} {s n : Int} (hs : sf r s = 0) : ((DAYS r s).filter (fun x => decide (x ≤ n))).contains n = hsB r s n := by
  unfold hsB bwA
  rw [List.contains_eq_mem, Bool.eq_iff_iff]
  simp only [decide_eq_true_iff]
  rw [List.mem_filter]
  constructor
  · rintro ⟨h1, _⟩
    refine ⟨hs, fun q => ?_⟩
    have : n ∈ ([] : List Int) := by rw [← q, List.mem_filter]; exact ⟨h1, by simp⟩
    cases this
  · rintro ⟨_, h2⟩
    obtain ⟨x, hx⟩ := List.exists_mem_of_ne_nil _ h2
    rw [List.mem_filter] at hx
    have hq := hx.2
    simp at hq
    obtain rfl : x = n := by omega
    exact ⟨hx.1, by simp⟩
theorem has_out {r : Rl} {s n : Int} (h : ¬ (1 ≤ n ∧ n ≤ 109573)) : hsB r s n = false := by
  unfold hsB
  refine decide_eq_false fun q => ?_
  obtain ⟨x, hx⟩ := List.exists_mem_of_ne_nil _ q.2
  unfold bwA at hx
  rw [List.mem_filter] at hx
  have hq := hx.2
  simp at hq
  have hd := DAYS_in q.1 hx.1
  obtain ⟨_, s1, s2⟩ := sf_ok q.1
  omega
end Go.Proofs.YtoncfgfjdlgfcaaGreatDoor
