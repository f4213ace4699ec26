/-
  What is proved here: what busy.freeAmong, Free, SlotAmong and Slot answer, whatever they are handed (contracts over the translation).
-/
import Derived.Test.YtiapdldeknijaaaBzFree
namespace Go.Proofs.Ytiapdldeknijaaa.Bz
open Go.RowKit

set_option maxRecDepth 100000 in
theorem fra_any (hS : SrtH) (l : List Bz) (fr t : Int) (v : Value) (w : World) (hv : Rb w v l) (hl : l.length ≤ 900) :
    Calls Try.prog 12 #[v, .int .i64 fr, .int .i64 t] w (NmA w (faL l fr t) (faF l fr t)) := by
  by_cases h : reF l 0 = 0
  · have e1 : faF l fr t = onF (fr, t) := by unfold faF; rw [if_pos h]
    by_cases h2 : onF (fr, t) = 0
    · have e2 : faL l fr t = fre t fr (nrm l) := by unfold faL; rw [e1, if_pos h2]
      rw [e1, e2, h2]
      exact fra_yes hS l fr t v w hv hl h h2
    · have e2 : faL l fr t = [] := by unfold faL; rw [e1, if_neg h2]
      rw [e1, e2]
      have b1 := below_one w (.cells #[.int .i64 fr] 3)
      have c1 : (w.alloc (.cells #[.int .i64 fr] 3)).cell? ⟨w.heap.size, 0, none⟩ = some (.int .i64 fr) := by simp
      obtain ⟨W1, hW1⟩ : ∃ W1, W1 = w.alloc (.cells #[.int .i64 fr] 3) := ⟨_, rfl⟩
      rw [← hW1] at b1 c1
      have z1 : w.heap.size < W1.heap.size := cell_in c1
      have HW1 := Lib.hid hW1
      have B1 := Lib.hid b1
      have C1 := Lib.hid c1
      have K := Lib.hid (eac_any l v W1 (hv.on b1) (Nat.le_trans hl (by decide)))
      rw [h] at K
      obtain ⟨F, hF⟩ : ∃ F, F = onF (fr, t) := ⟨_, rfl⟩
      rw [← hF] at h2 ⊢
      have H2 := Lib.hid h2
      have HF := Lib.hid hF
      clear b1 c1 hW1 hv hS h h2 e1 e2 hF hl
      go_enter Try.func12, Try.ntmps12
      go_upto_region 1 with fail
      rw [← HW1.out]
      go_wp2_with fail
      refine K.out.mono ?_
      rintro e w3 ⟨rfl, hb⟩
      have B3 := Lib.hid (B1.out.trans (hb.mono B1.out.size))
      have c3 := (hb.cell (p := ⟨w.heap.size, 0, none⟩) z1).trans C1.out
      have z3 := cell_in c3
      have K2 := Lib.hid (one_any (fr, t) w3)
      rw [← HF.out, fault_not H2.out] at K2
      rw [show fault 0 = .nilIface from rfl]
      clear hb K
      go_wp2_with fail
      refine K2.out.mono ?_
      rintro e w4 ⟨rfl, hb⟩
      have B4 := Lib.hid (B3.out.trans (hb.mono B3.out.size))
      clear hb K2
      go_wp2
      go_ret2
      exact ⟨_, by rw [fault_not H2.out]; rfl, World.ownsRow_nil _ _ _ _, B4.out⟩
  · have e1 : faF l fr t = reF l 0 := by unfold faF; rw [if_neg h]
    have e2 : faL l fr t = [] := by unfold faL; rw [e1, if_neg h]
    rw [e1, e2]
    have b1 := below_one w (.cells #[.int .i64 fr] 3)
    obtain ⟨W1, hW1⟩ : ∃ W1, W1 = w.alloc (.cells #[.int .i64 fr] 3) := ⟨_, rfl⟩
    rw [← hW1] at b1
    have HW1 := Lib.hid hW1
    have B1 := Lib.hid b1
    have K := Lib.hid (eac_any l v W1 (hv.on b1) (Nat.le_trans hl (by decide)))
    have H2 := Lib.hid h
    generalize reF l 0 = F at K H2 ⊢
    clear b1 hW1 hv hS h e1 e2 hl
    go_enter Try.func12, Try.ntmps12
    go_upto_region 1 with fail
    rw [← HW1.out]
    go_wp2_with fail
    refine K.out.mono ?_
    rintro e w3 ⟨rfl, hb⟩
    have B3 := Lib.hid (B1.out.trans (hb.mono B1.out.size))
    rw [fault_not H2.out]
    clear hb K
    go_wp2
    go_ret2
    exact ⟨_, by rw [fault_not H2.out]; rfl, World.ownsRow_nil _ _ _ _, B3.out⟩
set_option maxRecDepth 100000 in
theorem fre_any (hS : SrtH) (l : List Bz) (fr t : Int) (v : Value) (w : World) (hv : Rb w v l) (hl : l.length ≤ 9223372036854775807) :
    Calls Try.prog 5 #[v, .int .i64 fr, .int .i64 t] w (NmA w (frL l fr t) (frF l fr t)) := by
  have K := Lib.hid (mny_any l v w hv hl)
  by_cases h : 200 < l.length
  · have e1 : frF l fr t = 4 := by unfold frF; rw [bzF_many h]; rfl
    have e2 : frL l fr t = [] := by unfold frL; rw [e1]; rfl
    rw [e1, e2]
    rw [show mnF l = 4 from if_pos h, fault_not (by decide)] at K
    clear hv hl h e1 e2
    go_enter Try.func5, Try.ntmps5
    go_wp2_with fail
    refine K.out.mono ?_
    rintro e w1 ⟨rfl, hw⟩
    subst hw
    clear K
    go_wp2
    go_ret2
    exact ⟨_, by rw [fault_not (by decide)]; rfl, World.ownsRow_nil _ _ _ _, Below.refl _ _⟩
  · have K2 := Lib.hid (fra_any hS l fr t v w hv (by omega))
    rw [faF_few h, faL_few h] at K2
    rw [show mnF l = 0 from if_neg h, fault_zero rfl] at K
    generalize frF l fr t = F at K2 ⊢
    generalize frL l fr t = M at K2 ⊢
    clear hv hl h hS
    go_enter Try.func5, Try.ntmps5
    go_wp2_with fail
    refine K.out.mono ?_
    rintro e w1 ⟨rfl, hw⟩
    subst hw
    clear K
    go_wp2_with fail
    refine K2.out.mono ?_
    rintro e w3 ⟨u, rfl, ho, hb⟩
    have O3 := Lib.hid ho
    have B3 := Lib.hid hb
    clear ho hb K2
    go_wp2
    go_ret2
    exact ⟨u, rfl, O3.out, B3.out⟩
/-- Is it long enough? -/
def loB (n : Int) (x : Bz) : Bool := decide (n ≤ x.2 - x.1)
set_option maxRecDepth 100000 in
theorem lon_any (n : Int) (x : Bz) (b : Nat) (w : World) (h : Sm x) (hn : w.cell? ⟨b, 0, none⟩ = some (.int .i64 n)) :
    Calls Try.prog 28 #[agB x, .pointer (some ⟨b, 0, none⟩)] w fun e w' => e = .returned (.bool (loB n x)) ∧ Below w.heap.size w w' := by
  have N : Hid (loB n x = decide (n ≤ x.2 - x.1)) := Lib.hid rfl
  generalize loB n x = R at N ⊢
  have T3 := BBx.new w x 28
  have b3 := below_one w (.cells #[.int .i64 x.1, .int .i64 x.2] 28)
  obtain ⟨W3, hW3⟩ : ∃ W3, W3 = w.alloc (.cells #[.int .i64 x.1, .int .i64 x.2] 28) := ⟨_, rfl⟩
  rw [← hW3] at T3 b3
  have HW3 := Lib.hid hW3
  have B3 := Lib.hid b3
  obtain ⟨t0, t1⟩ := T3
  have tl := cell_in t0
  have n0 := (b3.cell (p := ⟨b, 0, none⟩) (cell_in hn)).trans hn
  have nl := cell_in n0
  have HS := Lib.hid h
  clear hW3 b3 h hn
  go_enter Try.func28, Try.ntmps28
  go_upto_region 1 with fail
  rw [← HW3.out]
  have r0 := cell_regrown t0
  have r1 := cell_regrown t1
  have r2 := cell_regrown n0
  refine wp_region_quiet_below (by kernel_rfl) (by kernel_rfl) ?_
  repeat (go_big_quiet_step (first | (go_at_call 17; exact Calls.regrown_of (minB_any x _ HS.out))))
  refine wpQuiet_nil ?_
  intro _ hw'
  obtain ⟨⟨dq, osq⟩, hw''⟩ := hw'
  subst hw''
  have B4 := Lib.hid (B3.out.trans ((below_regrown W3 dq osq).mono B3.out.size))
  clear r0 r1 r2 t0 t1 tl n0 nl
  go_wp2
  go_ret
  exact ⟨ret_bool N.out.symm, B4.out⟩
set_option maxRecDepth 100000 in
set_option maxHeartbeats 1000000 in
theorem idxS (n : Int) (l : List Bz) (b0 : Nat) (v : Value) (w : World) (hn : w.cell? ⟨b0, 0, none⟩ = some (.int .i64 n)) (hs : ∀ x ∈ l, Sm x) (hh : Rb w v l) (hl : l.length ≤ 1000000) :
    Calls Try.prog 27 #[v, .func (.func 28) #[] #[.pointer (some ⟨b0, 0, none⟩)]] w (IdxA l (loB n) w) := by
  have HH := Lib.hid hh
  have HC : Hid (∀ c ∈ l, ∀ W, Below w.heap.size w W → Calls Try.prog 28 #[agB c, .pointer (some ⟨b0, 0, none⟩)] W fun e w' => e = .returned (.bool (loB n c)) ∧ Below W.heap.size W w') := Lib.hid (fun c hc W q => lon_any n c b0 W (hs c hc) ((q.cell (p := ⟨b0, 0, none⟩) (cell_in hn)).trans hn))
  obtain ⟨a, cap, rfl, _⟩ := hh
  generalize loB n = p at HC ⊢
  clear hn hs
  have eg : ∀ args w, (callFunc 28 args).run Try.prog w = .ok (.enter 28 args) w := enters_of Try.func28 (by kernel_rfl) rfl
  go_enter Try.func27, Try.ntmps27
  go_wp2
  go_loopw [8] (fun i wr => ∃ k : Nat, k ≤ l.length ∧ i = .int .i64 k ∧ Hid ((l.take k).any p = false) ∧ Below w.heap.size w wr) (fun i _ => l.length - (intOf i).toNat)
  case atStart => exact ⟨0, Nat.zero_le _, rfl, Lib.hid rfl, Below.refl _ _⟩
  case round =>
    obtain ⟨k, hk, rfl, HF, hB⟩ := hrel
    have HB := Lib.hid hB
    by_cases hlt : k < l.length
    · obtain ⟨b, off, rfl, _, k1, k2⟩ := rb_at (HH.out.on hB) hlt
      have bl := cell_in k1
      have K := Lib.hid (HC.out (l.getD k (0, 0)) (by rw [List.getD_eq_getElem?_getD, List.getElem?_eq_getElem hlt]; exact List.getElem_mem _) wr hB)
      obtain ⟨X, hX⟩ : ∃ X, X = l.getD k (0, 0) := ⟨_, rfl⟩
      rw [← hX] at k1 k2 K
      have HX := Lib.hid hX
      clear hX hB
      go_wp2_with fail
      refine K.out.mono ?_
      rintro e w2 ⟨rfl, hb⟩
      have HB2 := Lib.hid (HB.out.trans (hb.mono HB.out.size))
      clear hb K k1 k2 bl
      rcases hp : p X with _ | _
      · have N1 := Lib.hid (any_tk p l k hlt HF.out (by rw [← HX.out]; exact hp))
        go_wp2
        go_roundw
        case rel => exact ⟨k + 1, by omega, by go_num, N1, HB2.out⟩
        case measure => simp [intOf]; omega
      · have N1 : Hid (p (l.getD k (0, 0)) = true) := Lib.hid (by rw [← HX.out]; exact hp)
        go_wp2
        go_ret
        exact ⟨HB2.out, Or.inr ⟨k, rfl, hlt, HF.out, N1.out⟩⟩
    · have N1 : Hid (l.any p = false) := Lib.hid (by have := HF.out; rwa [List.take_of_length_le (by omega)] at this)
      go_wp2
      go_ret
      exact ⟨HB.out, Or.inl ⟨rfl, N1.out⟩⟩
/-- What Slot tells: the first of those that are free that is long enough. -/
def slI (n : Int) : List Bz → Int
  | [] => 0
  | x :: r => if loB n x = true then x.1 else slI n r
def slE (n : Int) (m : List Bz) : Int := if n < 1 ∨ 1000000 < n then 1 else if m.any (loB n) = true then 0 else 5
def slT (n : Int) (m : List Bz) : Int := if n < 1 ∨ 1000000 < n then 0 else slI n m
theorem slI_none {n : Int} : ∀ {m : List Bz}, m.any (loB n) = false → slI n m = 0
  | [], _ => rfl
  | x :: r, h => by
    rw [List.any_cons, Bool.or_eq_false_iff] at h
    unfold slI
    rw [if_neg (by rw [h.1]; simp), slI_none h.2]
theorem slI_at {n : Int} : ∀ {m : List Bz} {k : Nat}, k < m.length → (m.take k).any (loB n) = false → loB n (m.getD k (0, 0)) = true → slI n m = (m.getD k (0, 0)).1
  | [], k, h, _, _ => by simp at h
  | x :: r, 0, _, _, hp => by
    unfold slI
    rw [if_pos (by simpa using hp)]
    rfl
  | x :: r, k + 1, h, ha, hp => by
    rw [List.take_succ_cons, List.any_cons, Bool.or_eq_false_iff] at ha
    unfold slI
    rw [if_neg (by rw [ha.1]; simp), slI_at (k := k) (by simpa using h) ha.2 (by simpa using hp)]
    simp
/-- The fault and the time of Slot; of SlotAmong. -/
def sloF (l : List Bz) (fr t n : Int) : Int := if frF l fr t = 0 then slE n (frL l fr t) else frF l fr t
def sloT (l : List Bz) (fr t n : Int) : Int := if frF l fr t = 0 then slT n (frL l fr t) else 0
def saF (l : List Bz) (fr t n : Int) : Int := if faF l fr t = 0 then slE n (faL l fr t) else faF l fr t
def saT (l : List Bz) (fr t n : Int) : Int := if faF l fr t = 0 then slT n (faL l fr t) else 0
theorem saF_few {l : List Bz} {fr t n : Int} (h : ¬ 200 < l.length) : saF l fr t n = sloF l fr t n := by unfold saF sloF; rw [faF_few h, faL_few h]
theorem saT_few {l : List Bz} {fr t n : Int} (h : ¬ 200 < l.length) : saT l fr t n = sloT l fr t n := by unfold saT sloT; rw [faF_few h, faL_few h]
theorem faL_gd (l : List Bz) (fr t : Int) : (∀ x ∈ faL l fr t, Gd x) ∧ (faL l fr t).length ≤ l.length + 1 := by
  unfold faL
  split
  · rename_i h
    unfold faF at h
    split at h
    · rename_i hz
      have gd := onF_zero.1 h
      have RT := gd_rt (reF_zero.1 hz)
      obtain ⟨i1, i2⟩ := fre_cn t (nrm l) fr (nrm_cn RT)
      refine ⟨fun x hx => ?_, ?_⟩
      · have a := ((i2 x.1).1 (i1.first hx)).1
        have b := ((i2 (x.2 - 1)).1 (i1.last hx)).1
        have c := i1.2 x hx
        have d : 1 ≤ fr ∧ fr ≤ t ∧ t ≤ 157785119 := gd
        exact ⟨by omega, by omega, by omega⟩
      · have := fre_len t (nrm l) fr
        have := nrm_len RT
        omega
    · omega
  · exact ⟨fun x hx => by simp at hx, by simp⟩
theorem frL_gd (l : List Bz) (fr t : Int) : (∀ x ∈ frL l fr t, Gd x) ∧ (frL l fr t).length ≤ 201 := by
  by_cases h : 200 < l.length
  · have e1 : frF l fr t = 4 := by unfold frF; rw [bzF_many h]; rfl
    have e2 : frL l fr t = [] := by unfold frL; rw [e1]; rfl
    rw [e2]
    exact ⟨fun x hx => by simp at hx, by simp⟩
  · have q := faL_gd l fr t
    rw [faL_few h] at q
    exact ⟨q.1, by have := q.2; omega⟩
set_option maxRecDepth 100000 in
set_option maxHeartbeats 2000000 in
theorem sla_any (hS : SrtH) (l : List Bz) (fr t n : Int) (v : Value) (w : World) (hv : Rb w v l) (hl : l.length ≤ 900) :
    Calls Try.prog 15 #[v, .int .i64 fr, .int .i64 t, .int .i64 n] w (TtA w (saT l fr t n) (saF l fr t n)) := by
  have b1 := below_one w (.cells #[.int .i64 n] 3)
  have c1 : (w.alloc (.cells #[.int .i64 n] 3)).cell? ⟨w.heap.size, 0, none⟩ = some (.int .i64 n) := by simp
  obtain ⟨W1, hW1⟩ : ∃ W1, W1 = w.alloc (.cells #[.int .i64 n] 3) := ⟨_, rfl⟩
  rw [← hW1] at b1 c1
  have z1 : w.heap.size < W1.heap.size := cell_in c1
  have HW1 := Lib.hid hW1
  have B1 := Lib.hid b1
  have C1 := Lib.hid c1
  have Z1 := Lib.hid z1
  have K := Lib.hid (fra_any hS l fr t v W1 (hv.on b1) hl)
  obtain ⟨gd, ln⟩ := faL_gd l fr t
  have GD := Lib.hid gd
  have eT : saT l fr t n = if faF l fr t = 0 then slT n (faL l fr t) else 0 := rfl
  have eF : saF l fr t n = if faF l fr t = 0 then slE n (faL l fr t) else faF l fr t := rfl
  rw [eT, eF]
  generalize faL l fr t = M at K GD ln ⊢
  generalize faF l fr t = F at K ⊢
  clear b1 c1 hW1 hv hS gd eT eF z1
  by_cases h : F = 0
  · subst h
    rw [if_pos rfl, if_pos rfl]
    by_cases h1 : n < 1 ∨ 1000000 < n
    · have EE : Hid (slE n M = 1 ∧ slT n M = 0) := Lib.hid ⟨if_pos h1, if_pos h1⟩
      generalize slE n M = E1 at EE ⊢
      generalize slT n M = T1 at EE ⊢
      by_cases h2 : n < 1
      all_goals
        try (have h3 : 1000000 < n := by omega)
        clear h1
        go_enter Try.func15, Try.ntmps15
        go_upto_region 1 with fail
        rw [← HW1.out]
        go_wp2_with fail
        refine K.out.mono ?_
        rintro e w3 ⟨u, rfl, ho, hb⟩
        have B3 := Lib.hid (B1.out.trans (hb.mono B1.out.size))
        have c3 := (hb.cell (p := ⟨w.heap.size, 0, none⟩) Z1.out).trans C1.out
        have z3 := cell_in c3
        rw [show fault 0 = .nilIface from rfl]
        clear ho hb K
        go_wp2
        go_ret2
        exact ⟨by rw [EE.out.1, EE.out.2]; rfl, B3.out⟩
    · have h2 : ¬ n < 1 := by omega
      have h3 : ¬ 1000000 < n := by omega
      have EE : Hid (slE n M = (if M.any (loB n) = true then 0 else 5) ∧ slT n M = slI n M) := Lib.hid ⟨if_neg h1, if_neg h1⟩
      generalize slE n M = E1 at EE ⊢
      generalize slT n M = T1 at EE ⊢
      clear h1
      go_enter Try.func15, Try.ntmps15
      go_upto_region 1 with fail
      rw [← HW1.out]
      go_wp2_with fail
      refine K.out.mono ?_
      rintro e w3 ⟨u, rfl, ho, hb⟩
      have B3 := Lib.hid (B1.out.trans (hb.mono B1.out.size))
      have O3 := Lib.hid ho
      have c3 := (hb.cell (p := ⟨w.heap.size, 0, none⟩) Z1.out).trans C1.out
      have z3 := cell_in c3
      obtain ⟨a, cap, ev, _⟩ := ho.rb
      subst ev
      rw [show fault 0 = .nilIface from rfl]
      have K2 := Lib.hid (idxS n M w.heap.size _ w3 c3 (fun x hx => gd_sm (GD.out x hx)) ho.rb (by omega))
      clear ho hb K
      go_wp2_with fail
      refine K2.out.mono ?_
      rintro e w4 ⟨hb, hx⟩
      have B4 := Lib.hid (B3.out.trans (hb.mono B3.out.size))
      have O4 : Hid (Ob w4 W1.heap.size (.slice a M.length cap) M) := Lib.hid (ow_below O3.out hb)
      clear hb K2 c3 z3 O3
      rcases hx with ⟨rfl, ha⟩ | ⟨k, rfl, hk, ha, hp⟩
      · have N : Hid (E1 = 5 ∧ T1 = 0) := Lib.hid ⟨by rw [EE.out.1, ha]; rfl, by rw [EE.out.2, slI_none ha]⟩
        clear ha
        go_wp2
        go_ret2
        exact ⟨by rw [N.out.1, N.out.2]; rfl, B4.out⟩
      · have N : Hid (E1 = 0 ∧ T1 = (M.getD k (0, 0)).1) := Lib.hid ⟨by
          rw [EE.out.1, if_pos (List.any_eq_true.2 ⟨_, by rw [List.getD_eq_getElem?_getD, List.getElem?_eq_getElem hk]; exact List.getElem_mem _, hp⟩)], by rw [EE.out.2, slI_at hk ha hp]⟩
        obtain ⟨b, off, rfl, _, d1, d2⟩ := rb_at O4.out.rb hk
        have dl := cell_in d1
        generalize M.getD k (0, 0) = X at N d1 d2
        have kn : ¬ (k : Int) < 0 := by omega
        clear ha hp
        go_wp2
        go_ret2
        exact ⟨by rw [N.out.1, N.out.2]; rfl, B4.out⟩
  · rw [if_neg h, if_neg h]
    have H2 := Lib.hid h
    clear h
    go_enter Try.func15, Try.ntmps15
    go_upto_region 1 with fail
    rw [← HW1.out]
    go_wp2_with fail
    refine K.out.mono ?_
    rintro e w3 ⟨u, rfl, ho, hb⟩
    have B3 := Lib.hid (B1.out.trans (hb.mono B1.out.size))
    rw [fault_not H2.out]
    clear ho hb K
    go_wp2
    go_ret2
    exact ⟨by rw [fault_not H2.out]; rfl, B3.out⟩
set_option maxRecDepth 100000 in
theorem slo_any (hS : SrtH) (l : List Bz) (fr t n : Int) (v : Value) (w : World) (hv : Rb w v l) (hl : l.length ≤ 9223372036854775807) :
    Calls Try.prog 8 #[v, .int .i64 fr, .int .i64 t, .int .i64 n] w (TtA w (sloT l fr t n) (sloF l fr t n)) := by
  have K := Lib.hid (mny_any l v w hv hl)
  by_cases h : 200 < l.length
  · have e0 : frF l fr t = 4 := by unfold frF; rw [bzF_many h]; rfl
    have e1 : sloF l fr t n = 4 := by unfold sloF; rw [e0]; rfl
    have e2 : sloT l fr t n = 0 := by unfold sloT; rw [e0]; rfl
    rw [e1, e2]
    rw [show mnF l = 4 from if_pos h, fault_not (by decide)] at K
    clear hv hl h e1 e2 e0
    go_enter Try.func8, Try.ntmps8
    go_wp2_with fail
    refine K.out.mono ?_
    rintro e w1 ⟨rfl, hw⟩
    subst hw
    clear K
    go_wp2
    go_ret2
    exact ⟨by rw [fault_not (by decide)]; rfl, Below.refl _ _⟩
  · have K2 := Lib.hid (sla_any hS l fr t n v w hv (by omega))
    rw [saF_few h, saT_few h] at K2
    rw [show mnF l = 0 from if_neg h, fault_zero rfl] at K
    generalize sloF l fr t n = F at K2 ⊢
    generalize sloT l fr t n = T at K2 ⊢
    clear hv hl h hS
    go_enter Try.func8, Try.ntmps8
    go_wp2_with fail
    refine K.out.mono ?_
    rintro e w1 ⟨rfl, hw⟩
    subst hw
    clear K
    go_wp2_with fail
    refine K2.out.mono ?_
    rintro e w3 ⟨rfl, hb⟩
    have B3 := Lib.hid hb
    clear hb K2
    go_wp2
    go_ret2
    exact ⟨rfl, B3.out⟩
end Go.Proofs.Ytiapdldeknijaaa.Bz
