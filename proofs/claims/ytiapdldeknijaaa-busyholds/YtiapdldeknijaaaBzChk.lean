/-
  What is proved here: what busy.minutes, checkOne, checkMany, checkEach and check answer, and slices.Clone at stretches (contracts over the translation).
-/
import Derived.Test.YtiapdldeknijaaaBzRow
import Derived.Test.YtiapdldeknijaaaClk
import Derived.Deep.Cut
import Derived.Deep.CutRange
namespace Go.Proofs.Ytiapdldeknijaaa.Bz
open Go.RowKit

/-- What is wrong with one stretch; with a list of them. -/
def onF (x : Bz) : Int := if ist x.1 = false ∨ ist x.2 = false then 1 else if x.2 < x.1 then 3 else 0
def bzF (l : List Bz) : Int := if 200 < l.length then 4 else (l.map onF).foldr (fun f r => if f = 0 then r else f) 0
/-- A stretch that is right. -/
def Gd (x : Bz) : Prop := 1 ≤ x.1 ∧ x.1 ≤ x.2 ∧ x.2 ≤ 157785119
theorem onF_zero {x : Bz} : onF x = 0 ↔ Gd x := by
  unfold onF Gd ist
  by_cases a : 1 ≤ x.1 ∧ x.1 ≤ 157785119
  · by_cases b : 1 ≤ x.2 ∧ x.2 ≤ 157785119
    · simp [a, b]
    · simp [b]
      omega
  · simp [a]
    omega
theorem bzF_all : ∀ l : List Bz, (l.map onF).foldr (fun f r => if f = 0 then r else f) 0 = 0 ↔ ∀ x ∈ l, Gd x
  | [] => by simp
  | a :: r => by
    have ih := bzF_all r
    rw [List.map_cons, List.foldr_cons]
    by_cases c : onF a = 0
    · rw [if_pos c, ih]
      have := onF_zero.1 c
      simp [this]
    · rw [if_neg c]
      simp only [c, false_iff]
      intro h
      exact c (onF_zero.2 (h a (by simp)))
theorem bzF_zero {l : List Bz} : bzF l = 0 ↔ l.length ≤ 200 ∧ ∀ x ∈ l, Gd x := by
  unfold bzF
  split
  · constructor
    · intro h
      omega
    · intro h
      omega
  · rw [bzF_all]
    constructor
    · intro h
      exact ⟨by omega, h⟩
    · exact fun h => h.2
theorem gd_rt {l : List Bz} (h : ∀ x ∈ l, Gd x) : Rt l := fun x hx => (h x hx).2.1
theorem gd_wt {l : List Bz} (h : ∀ x ∈ l, Gd x) : Wt 1 157785119 l := fun x hx => ⟨(h x hx).1, (h x hx).2.2⟩
/-- The faults of those from one on. -/
def reF (l : List Bz) (k : Nat) : Int := ((l.drop k).map onF).foldr (fun f r => if f = 0 then r else f) 0
theorem reF_step {l : List Bz} {k : Nat} (h : k < l.length) : reF l k = if onF (l.getD k (0, 0)) = 0 then reF l (k + 1) else onF (l.getD k (0, 0)) := by
  unfold reF
  rw [List.drop_eq_getElem_cons h, List.map_cons, List.foldr_cons, List.getD_eq_getElem?_getD, List.getElem?_eq_getElem h]
  rfl
theorem reF_end (l : List Bz) : reF l l.length = 0 := by simp [reF]
/-- Small enough to be taken from one another. -/
def Sm (x : Bz) : Prop := (-1000000000000 ≤ x.1 ∧ x.1 ≤ 1000000000000) ∧ -1000000000000 ≤ x.2 ∧ x.2 ≤ 1000000000000
theorem gd_sm {x : Bz} (h : Gd x) : Sm x := by unfold Gd at h; unfold Sm; omega
theorem min_any (x : Bz) (w : World) (h : Sm x) :
    Calls Try.prog 17 #[agB x] w fun e w' => e = .returned (.int .i64 (x.2 - x.1)) ∧ ∃ o, w' = w.alloc o := by
  obtain ⟨⟨a1, a2⟩, a3, a4⟩ := h
  go_enter Try.func17, Try.ntmps17
  go_wp2
  go_ret
  exact ⟨rfl, _, rfl⟩
theorem minB_any (x : Bz) (w : World) (h : Sm x) :
    Calls Try.prog 17 #[agB x] w fun e w' => e = .returned (.int .i64 (x.2 - x.1)) ∧ Below w.heap.size w w' :=
  (min_any x w h).mono fun _ _ ⟨he, o, hw⟩ => ⟨he, by rw [hw]; exact below_one w o⟩
theorem one_any (x : Bz) (w : World) :
    Calls Try.prog 19 #[agB x] w fun e w' => e = .returned (fault (onF x)) ∧ Below w.heap.size w w' := by
  have HB := Lib.hid (below_one w (.cells #[.int .i64 x.1, .int .i64 x.2] 28))
  rcases h1 : ist x.1 with _ | _
  · have N : Hid (onF x = 1) := Lib.hid (by unfold onF; simp [h1])
    generalize onF x = F at N ⊢
    go_enter Try.func19, Try.ntmps19
    go_wp2_with (go_at_call 30; refine (isTime_any _ _).mono ?_; rintro e w' ⟨rfl, rfl⟩)
    go_ret
    exact ⟨by rw [N.out]; rfl, HB.out⟩
  rcases h2 : ist x.2 with _ | _
  · have N : Hid (onF x = 1) := Lib.hid (by unfold onF; simp [h2])
    generalize onF x = F at N ⊢
    go_enter Try.func19, Try.ntmps19
    go_wp2_with (go_at_call 30; refine (isTime_any _ _).mono ?_; rintro e w' ⟨rfl, rfl⟩)
    go_ret
    exact ⟨by rw [N.out]; rfl, HB.out⟩
  by_cases h3 : x.2 < x.1
  · have N : Hid (onF x = 3) := Lib.hid (by unfold onF; simp [h1, h2, h3])
    generalize onF x = F at N ⊢
    go_enter Try.func19, Try.ntmps19
    go_wp2_with (go_at_call 30; refine (isTime_any _ _).mono ?_; rintro e w' ⟨rfl, rfl⟩)
    go_ret
    exact ⟨by rw [N.out]; rfl, HB.out⟩
  · have N : Hid (onF x = 0) := Lib.hid (by unfold onF; simp [h1, h2, h3])
    generalize onF x = F at N ⊢
    go_enter Try.func19, Try.ntmps19
    go_wp2_with (go_at_call 30; refine (isTime_any _ _).mono ?_; rintro e w' ⟨rfl, rfl⟩)
    go_ret
    exact ⟨by rw [N.out]; rfl, HB.out⟩
theorem fault_zero {k : Int} (h : k = 0) : fault k = .nilIface := if_pos h
theorem fault_not {k : Int} (h : ¬ k = 0) : fault k = .iface 41 (.int .i64 k) := if_neg h
/-- Are there too many? -/
def mnF (l : List Bz) : Int := if 200 < l.length then 4 else 0
theorem bzF_many {l : List Bz} (h : 200 < l.length) : bzF l = 4 := if_pos h
theorem bzF_few {l : List Bz} (h : ¬ 200 < l.length) : bzF l = reF l 0 := if_neg h
theorem reF_zero {l : List Bz} : reF l 0 = 0 ↔ ∀ x ∈ l, Gd x := bzF_all l
theorem mny_any (l : List Bz) (v : Value) (w : World) (hv : Rb w v l) (hl : l.length ≤ 9223372036854775807) :
    Calls Try.prog 11 #[v] w fun e w' => e = .returned (fault (mnF l)) ∧ w' = w := by
  obtain ⟨a, cap, rfl, _⟩ := hv
  by_cases h2 : 200 < l.length
  · have N : Hid (mnF l = 4) := Lib.hid (if_pos h2)
    generalize mnF l = F at N ⊢
    go_enter Try.func11, Try.ntmps11
    go_wp2
    go_ret
    exact ⟨by rw [N.out]; rfl, rfl⟩
  · have N : Hid (mnF l = 0) := Lib.hid (if_neg h2)
    generalize mnF l = F at N ⊢
    go_enter Try.func11, Try.ntmps11
    go_wp2
    go_ret
    exact ⟨by rw [N.out]; rfl, rfl⟩
set_option maxRecDepth 100000 in
theorem eac_any (l : List Bz) (v : Value) (w : World) (hv : Rb w v l) (hl : l.length ≤ 9223372036854775807) :
    Calls Try.prog 18 #[v] w fun e w' => e = .returned (fault (reF l 0)) ∧ Below w.heap.size w w' := by
  have HV := Lib.hid hv
  obtain ⟨a, cap, rfl, _⟩ := hv
  obtain ⟨F, hF⟩ : ∃ F, F = reF l 0 := ⟨_, rfl⟩
  have N := Lib.hid hF
  rw [← hF]
  clear hF
  go_enter Try.func18, Try.ntmps18
  go_wp2
  go_loopw [8, 4, 5] (fun i _ _ wr => ∃ k : Nat, k ≤ l.length ∧ i = .int .i64 k ∧ Hid (F = reF l k) ∧ Below w.heap.size w wr) (fun i _ _ _ => l.length - (intOf i).toNat)
  case atStart => exact ⟨0, Nat.zero_le _, rfl, N, Below.refl _ _⟩
  case round =>
    obtain ⟨k, hk, rfl, HF, hB⟩ := hrel
    have HB := Lib.hid hB
    by_cases hlt : k < l.length
    · obtain ⟨b, off, rfl, _, c1, c2⟩ := rb_at (HV.out.on hB) hlt
      have ST := Lib.hid (reF_step hlt)
      obtain ⟨X, hX⟩ : ∃ X, X = l.getD k (0, 0) := ⟨_, rfl⟩
      rw [← hX] at c1 c2 ST
      clear hX hB
      have bl := cell_in c1
      have T3 := BBx.new wr X 28
      have b3 := below_one wr (.cells #[.int .i64 X.1, .int .i64 X.2] 28)
      obtain ⟨W3, hW3⟩ : ∃ W3, W3 = wr.alloc (.cells #[.int .i64 X.1, .int .i64 X.2] 28) := ⟨_, rfl⟩
      rw [← hW3] at T3 b3
      have HW3 := Lib.hid hW3
      have HT3 := Lib.hid T3
      have B3 := Lib.hid (HB.out.trans (b3.mono HB.out.size))
      clear hW3 T3 b3
      go_upto_region 4 with fail
      rw [← HW3.out]
      clear HW3 c1 c2 bl
      obtain ⟨t0, t1⟩ := HT3.out
      have tl := cell_in t0
      go_wp2_with fail
      refine (one_any X _).mono ?_
      rintro e w4 ⟨rfl, hb⟩
      have B4 := Lib.hid (B3.out.trans (hb.mono B3.out.size))
      clear t0 t1 tl hb HT3 B3
      by_cases hf : onF X = 0
      · have N2 : Hid (F = reF l (k + 1)) := Lib.hid (by rw [HF.out, ST.out, if_pos hf])
        rw [fault_zero hf]
        go_wp2
        go_roundw
        case rel => exact ⟨k + 1, by omega, by go_num, N2, B4.out⟩
        case measure => simp [intOf]; omega
      · have N2 : Hid (F = onF X) := Lib.hid (by rw [HF.out, ST.out, if_neg hf])
        have N3 : Hid (¬ onF X = 0) := Lib.hid hf
        rw [fault_not hf]
        generalize onF X = G at N2 N3 ⊢
        clear hf ST
        go_wp2
        go_ret
        exact ⟨by rw [N2.out, fault_not N3.out]; rfl, B4.out⟩
    · have N2 : Hid (F = 0) := Lib.hid (by rw [HF.out, show k = l.length by omega, reF_end])
      go_wp2
      go_ret
      exact ⟨by rw [N2.out]; rfl, HB.out⟩
theorem chk_any (l : List Bz) (v : Value) (w : World) (hv : Rb w v l) (hl : l.length ≤ 9223372036854775807) :
    Calls Try.prog 13 #[v] w fun e w' => e = .returned (fault (bzF l)) ∧ Below w.heap.size w w' := by
  have K := Lib.hid (mny_any l v w hv hl)
  have K2 := Lib.hid (eac_any l v w hv hl)
  clear hv hl
  by_cases h : 200 < l.length
  · rw [bzF_many h]
    rw [show mnF l = 4 from if_pos h] at K
    rw [fault_not (by decide)] at K ⊢
    clear K2 h
    go_enter Try.func13, Try.ntmps13
    go_wp2_with fail
    refine K.out.mono ?_
    rintro e w1 ⟨rfl, hw⟩
    subst hw
    clear K
    go_wp2
    go_ret
    exact ⟨rfl, Below.refl _ _⟩
  · rw [bzF_few h]
    rw [show mnF l = 0 from if_neg h, fault_zero rfl] at K
    generalize reF l 0 = F at K2 ⊢
    clear h
    go_enter Try.func13, Try.ntmps13
    go_wp2_with fail
    refine K.out.mono ?_
    rintro e w1 ⟨rfl, hw⟩
    subst hw
    clear K
    go_wp2_with fail
    refine K2.out.mono ?_
    rintro e w2 ⟨rfl, hb⟩
    have B2 := Lib.hid hb
    clear hb K2
    go_wp2
    go_ret
    exact ⟨rfl, B2.out⟩
set_option maxRecDepth 100000 in
theorem cln_any (v : Value) (l : List Bz) (w : World) (hv : Rb w v l) (hl : l.length ≤ 1000000) :
    Calls Try.prog 22 #[v] w fun e w' => ∃ u, e = .returned u ∧ Ob w' w.heap.size u l ∧ Below w.heap.size w w' := by
  obtain ⟨a, cap, rfl, hc⟩ := id hv
  rcases a with _ | ad
  · have l0 : l = [] := by
      rcases hc with q | ⟨b, off, q, _⟩
      · exact q
      · cases q
    subst l0
    have hn : ∀ w, (binOp .eql 22 (.slice none 0 cap) (.slice none 0 0)).run Try.prog w = .ok (.bool true) w := fun w => Lib.run_eql_slice_nil w _ _ none _ _ _ _ Try.underlying22
    go_enter Try.func22, Try.ntmps22
    go_wp2
    go_ret
    exact ⟨_, rfl, World.ownsRow_nil _ _ _ _, Below.refl _ _⟩
  · have b1 : Below w.heap.size w (w.alloc (.cells #[] 28)) := below_one w _
    have O0 : Ob (w.alloc (.cells #[] 28)) w.heap.size (.slice (some ⟨w.heap.size, 0, none⟩) 0 0) [] :=
      ⟨rfl, Or.inr ⟨w.heap.size, 0, #[], rfl, Nat.le_refl _, heap_alloc_new w _, Nat.le_refl _, Nat.zero_le _, rfl, rfl⟩⟩
    obtain ⟨v2, w2, ap, o2, b2⟩ := appB_any (mo := l) O0 (hv.on b1) (by rw [World.size_alloc]; omega) (by simp; omega)
    rw [List.nil_append] at o2
    have AP := Lib.hid ap
    have O2 := Lib.hid o2
    have B2 := Lib.hid (b1.trans b2)
    have hn : ∀ w, (binOp .eql 22 (.slice (some ad) l.length cap) (.slice none 0 0)).run Try.prog w = .ok (.bool false) w := fun w => Lib.run_eql_slice_nil w _ _ (some ad) _ _ _ _ Try.underlying22
    clear hv hc O0 ap o2 b2 b1
    go_enter Try.func22, Try.ntmps22
    go_wp2_with (at_builtin; refine wpl_app rfl _ _ 22 rfl _ _ _ _ rfl rfl AP.out ?_)
    go_ret
    exact ⟨_, rfl, O2.out, B2.out⟩
end Go.Proofs.Ytiapdldeknijaaa.Bz
