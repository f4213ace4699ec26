/-
  What is proved here: what cmp.Compare answers at numbers and texts, cmp.Or at a row of numbers, and alarm.Order at two rings (contracts over the translation).
-/
import Derived.Test.YtpnbnnndpbjgmaaDoorQuPure
import Derived.Deep.RegionHeld3
import Derived.Sort.Grow
import Derived.Laws.Cover1
import Derived.Deep.Cut
import Derived.Deep.CutRange
namespace Go.Proofs.YtpnbnnndpbjgmaaDoor.Qu
open Go.RowKit

theorem cell_in {W : World} {b o : Nat} {v : Value} (k : W.cell? ⟨b, o, none⟩ = some v) : b < W.heap.size := by
  rcases Nat.lt_or_ge b W.heap.size with q | q
  · exact q
  · simp [World.cell?, Array.getElem?_eq_none q] at k
/-- A ring lies in a block. -/
def QBx (W : World) (b : Nat) (x : Rq) : Prop := W.cell? ⟨b, 0, none⟩ = some (.int .i64 x.1) ∧ W.cell? ⟨b, 1, none⟩ = some (.string x.2.1) ∧ W.cell? ⟨b, 2, none⟩ = some (.int .i64 x.2.2.1) ∧ W.cell? ⟨b, 3, none⟩ = some (.int .i64 x.2.2.2.1) ∧ W.cell? ⟨b, 4, none⟩ = some (.int .i64 x.2.2.2.2)
theorem QBx.lt {W : World} {b : Nat} {x : Rq} (h : QBx W b x) : b < W.heap.size := cell_in h.1
theorem QBx.on {W W' : World} {b : Nat} {x : Rq} (h : QBx W b x) (q : Below W.heap.size W W') : QBx W' b x :=
  ⟨(q.cell (p := ⟨b, 0, none⟩) h.lt).trans h.1, (q.cell (p := ⟨b, 1, none⟩) h.lt).trans h.2.1, (q.cell (p := ⟨b, 2, none⟩) h.lt).trans h.2.2.1, (q.cell (p := ⟨b, 3, none⟩) h.lt).trans h.2.2.2.1, (q.cell (p := ⟨b, 4, none⟩) h.lt).trans h.2.2.2.2⟩
theorem QBx.new (W : World) (x : Rq) (t : TypeId) : QBx (W.alloc (.cells #[.int .i64 x.1, .string x.2.1, .int .i64 x.2.2.1, .int .i64 x.2.2.2.1, .int .i64 x.2.2.2.2] t)) W.heap.size x := ⟨by simp, by simp, by simp, by simp, by simp⟩
theorem isNaN_any (x : Int) (w : World) : Calls Tryd.prog 52 #[.int .i64 x] w fun e w' => e = .returned (.bool false) ∧ w' = w := by
  go_enter Tryd.func52, Tryd.ntmps52
  go_wp2
  go_ret
  exact ⟨ret_bool (by simp), rfl⟩
theorem compare_any (a b : Int) (w : World) : Calls Tryd.prog 35 #[.int .i64 a, .int .i64 b] w fun e w' => e = .returned (.int .i64 (cmi a b)) ∧ w' = w := by
  have N1 : Hid (a < b → cmi a b = -1) := Lib.hid (fun h => if_pos h)
  have N2 : Hid (¬ a < b → b < a → cmi a b = 1) := Lib.hid (fun h k => by unfold cmi; rw [if_neg h, if_pos k])
  have N3 : Hid (¬ a < b → ¬ b < a → cmi a b = 0) := Lib.hid (fun h k => by unfold cmi; rw [if_neg h, if_neg k])
  generalize cmi a b = R at N1 N2 N3 ⊢
  by_cases h1 : a < b
  · have E := Lib.hid (N1.out h1)
    go_enter Tryd.func35, Tryd.ntmps35
    go_wp2_with (go_at_call 52; refine (isNaN_any _ _).mono ?_; rintro e w' ⟨rfl, rfl⟩)
    go_ret
    exact ⟨ret_int E.out.symm, rfl⟩
  by_cases h2 : b < a
  · have E := Lib.hid (N2.out h1 h2)
    go_enter Tryd.func35, Tryd.ntmps35
    go_wp2_with (go_at_call 52; refine (isNaN_any _ _).mono ?_; rintro e w' ⟨rfl, rfl⟩)
    go_ret
    exact ⟨ret_int E.out.symm, rfl⟩
  · have E := Lib.hid (N3.out h1 h2)
    go_enter Tryd.func35, Tryd.ntmps35
    go_wp2_with (go_at_call 52; refine (isNaN_any _ _).mono ?_; rintro e w' ⟨rfl, rfl⟩)
    go_ret
    exact ⟨ret_int E.out.symm, rfl⟩
theorem isNaNS_any (x : ByteArray) (w : World) : Calls Tryd.prog 53 #[.string x] w fun e w' => e = .returned (.bool false) ∧ w' = w := by
  go_enter Tryd.func53, Tryd.ntmps53
  go_wp2
  go_ret
  exact ⟨ret_bool (by simp), rfl⟩
theorem compareS_any (a b : ByteArray) (w : World) : Calls Tryd.prog 36 #[.string a, .string b] w fun e w' => e = .returned (.int .i64 (cms a b)) ∧ w' = w := by
  have N1 : Hid (Op.bytesLess a.toList b.toList = true → cms a b = -1) := Lib.hid (fun h => if_pos h)
  have N2 : Hid (Op.bytesLess a.toList b.toList = false → (a.toList == b.toList) = false → cms a b = 1) := Lib.hid (fun h k => by unfold cms; rw [if_neg (by rw [h]; decide), if_pos (by rw [h, k]; rfl)])
  have N3 : Hid (Op.bytesLess a.toList b.toList = false → (a.toList == b.toList) = true → cms a b = 0) := Lib.hid (fun h k => by unfold cms; rw [if_neg (by rw [h]; decide), if_neg (by rw [h, k]; decide)])
  generalize cms a b = R at N1 N2 N3 ⊢
  rcases h1 : Op.bytesLess a.toList b.toList with _ | _
  · rcases h2 : (a.toList == b.toList) with _ | _
    · have E := Lib.hid (N2.out h1 h2)
      clear N1 N2 N3
      go_enter Tryd.func36, Tryd.ntmps36
      go_wp2_with (go_at_call 53; refine (isNaNS_any _ _).mono ?_; rintro e w' ⟨rfl, rfl⟩)
      go_ret
      exact ⟨ret_int E.out.symm, rfl⟩
    · have E := Lib.hid (N3.out h1 h2)
      clear N1 N2 N3
      go_enter Tryd.func36, Tryd.ntmps36
      go_wp2_with (go_at_call 53; refine (isNaNS_any _ _).mono ?_; rintro e w' ⟨rfl, rfl⟩)
      go_ret
      exact ⟨ret_int E.out.symm, rfl⟩
  · have E := Lib.hid (N1.out h1)
    clear N1 N2 N3
    go_enter Tryd.func36, Tryd.ntmps36
    go_wp2_with (go_at_call 53; refine (isNaNS_any _ _).mono ?_; rintro e w' ⟨rfl, rfl⟩)
    go_ret
    exact ⟨ret_int E.out.symm, rfl⟩
theorem orL_at : ∀ (l : List Int) (k : Nat), k < l.length → (∀ j, j < k → l.getD j 0 = 0) → ¬ l.getD k 0 = 0 → orL l = l.getD k 0
  | x :: l, 0, _, _, h => by
    have h' : ¬ x = 0 := h
    unfold orL
    rw [if_neg h']
    rfl
  | x :: l, k + 1, hk, hz, h => by
    have h0 : x = 0 := hz 0 (by omega)
    unfold orL
    rw [if_pos h0]
    exact orL_at l k (by simpa using hk) (fun j hj => hz (j + 1) (by omega)) h
theorem orL_end : ∀ (l : List Int), (∀ j, j < l.length → l.getD j 0 = 0) → orL l = 0
  | [], _ => rfl
  | x :: l, hz => by
    have h0 : x = 0 := hz 0 (by simp)
    unfold orL
    rw [if_pos h0]
    exact orL_end l (fun j hj => hz (j + 1) (by simp; omega))
set_option maxRecDepth 100000 in
theorem orL_any (xs : List Int) (b : Nat) (w : World) (hc : ∀ i, i < xs.length → w.cell? ⟨b, i, none⟩ = some (.int .i64 (xs.getD i 0))) (hl : xs.length ≤ 100) :
    Calls Tryd.prog 34 #[.slice (some ⟨b, 0, none⟩) xs.length xs.length] w fun e w' => e = .returned (.int .i64 (orL xs)) ∧ w' = w := by
  have HC := Lib.hid hc
  have NA := Lib.hid (orL_at xs)
  have NE := Lib.hid (orL_end xs)
  generalize orL xs = R at NA NE ⊢
  clear hc
  go_enter Tryd.func34, Tryd.ntmps34
  go_wp2_with fail
  go_loop [5, 8] (fun _ i => ∃ k : Nat, k ≤ xs.length ∧ i = .int .i64 k ∧ ∀ j, j < k → xs.getD j 0 = 0) (fun _ i => xs.length - (intOf i).toNat)
  case atStart => exact ⟨0, by omega, rfl, fun j q => by omega⟩
  case round =>
    obtain ⟨k, hk, rfl, p⟩ := hrel
    have HP := Lib.hid p
    clear p
    by_cases hlt : k < xs.length
    · have c := HC.out k hlt
      have bl := cell_in c
      have NK := Lib.hid (NA.out k hlt HP.out)
      have PK : Hid (xs.getD k 0 = 0 → ∀ j, j < k + 1 → xs.getD j 0 = 0) := Lib.hid (fun z j hj => by
        rcases (by omega : j < k ∨ j = k) with q | q
        · exact HP.out j q
        · rw [q]; exact z)
      generalize xs.getD k 0 = x at c NK PK
      rcases hx : (x != 0) with _ | _
      · have P2 := Lib.hid (PK.out (by simpa using hx))
        go_wp2
        go_round
        case rel => exact ⟨k + 1, by omega, by go_num, P2.out⟩
        case measure => simp [intOf]; omega
      · have E := Lib.hid (NK.out (by simpa using hx))
        go_wp2
        go_ret
        exact ⟨ret_int E.out.symm, rfl⟩
    · have E := Lib.hid (NE.out (fun j hj => HP.out j (by omega)))
      go_wp2
      go_ret
      exact ⟨ret_int E.out.symm, rfl⟩
set_option maxRecDepth 100000 in
set_option maxHeartbeats 8000000 in
theorem order_run (x y : Rq) (w : World) :
    Calls Tryd.prog 27 #[.agg #[.int .i64 x.1, .string x.2.1, .int .i64 x.2.2.1, .int .i64 x.2.2.2.1, .int .i64 x.2.2.2.2], .agg #[.int .i64 y.1, .string y.2.1, .int .i64 y.2.2.1, .int .i64 y.2.2.2.1, .int .i64 y.2.2.2.2]] w fun e w' => e = .returned (.int .i64 (oc x y)) ∧ ∃ q os', w' = Sort.grow (w.drewN q) os' := by
  obtain ⟨W1, hW1⟩ : ∃ W1, W1 = w.alloc (.cells #[.int .i64 x.1, .string x.2.1, .int .i64 x.2.2.1, .int .i64 x.2.2.2.1, .int .i64 x.2.2.2.2] 34) := ⟨_, rfl⟩
  have g0 : QBx W1 w.heap.size x := by rw [hW1]; exact QBx.new w x _
  have z1 : W1.heap.size = w.heap.size + 1 := by rw [hW1, World.size_alloc]
  obtain ⟨W0, hW0⟩ : ∃ W0, W0 = W1.alloc (.cells #[.int .i64 y.1, .string y.2.1, .int .i64 y.2.2.1, .int .i64 y.2.2.2.1, .int .i64 y.2.2.2.2] 34) := ⟨_, rfl⟩
  have g1 : QBx W0 (w.heap.size + 1) y := by rw [hW0, ← z1]; exact QBx.new W1 y _
  have f0 : QBx W0 w.heap.size x := g0.on (by rw [hW0]; exact (Below.refl _ _).alloc (Nat.le_refl _) _)
  have hW : W0 = (w.alloc (.cells #[.int .i64 x.1, .string x.2.1, .int .i64 x.2.2.1, .int .i64 x.2.2.2.1, .int .i64 x.2.2.2.2] 34)).alloc (.cells #[.int .i64 y.1, .string y.2.1, .int .i64 y.2.2.1, .int .i64 y.2.2.2.1, .int .i64 y.2.2.2.2] 34) := by rw [hW0, hW1]
  have HS : Hid (∀ X, Below W0.heap.size W0 X → (X.cell? ⟨w.heap.size, 0, none⟩ = some (.int .i64 x.1) ∧ X.cell? ⟨w.heap.size, 1, none⟩ = some (.string x.2.1) ∧ X.cell? ⟨w.heap.size, 2, none⟩ = some (.int .i64 x.2.2.1) ∧ X.cell? ⟨w.heap.size, 3, none⟩ = some (.int .i64 x.2.2.2.1) ∧ X.cell? ⟨w.heap.size, 4, none⟩ = some (.int .i64 x.2.2.2.2)) ∧ X.cell? ⟨w.heap.size + 1, 0, none⟩ = some (.int .i64 y.1) ∧ X.cell? ⟨w.heap.size + 1, 1, none⟩ = some (.string y.2.1) ∧ X.cell? ⟨w.heap.size + 1, 2, none⟩ = some (.int .i64 y.2.2.1) ∧ X.cell? ⟨w.heap.size + 1, 3, none⟩ = some (.int .i64 y.2.2.2.1) ∧ X.cell? ⟨w.heap.size + 1, 4, none⟩ = some (.int .i64 y.2.2.2.2)) := Lib.hid (fun X q => ⟨f0.on q, g1.on q⟩)
  have HW := Lib.hid hW
  have CT : Hid (oc x y = orL [cmi x.1 y.1, cms x.2.1 y.2.1, cmi x.2.2.1 y.2.2.1, cmi x.2.2.2.1 y.2.2.2.1, cmi x.2.2.2.2 y.2.2.2.2]) := Lib.hid rfl
  generalize oc x y = R at CT ⊢
  clear g0 g1 z1 f0 hW hW0 hW1 W1
  have KO : Hid (∀ X, X.cell? ⟨W0.heap.size, 0, none⟩ = some (.int .i64 (cmi x.1 y.1)) → X.cell? ⟨W0.heap.size, 1, none⟩ = some (.int .i64 (cms x.2.1 y.2.1)) → X.cell? ⟨W0.heap.size, 2, none⟩ = some (.int .i64 (cmi x.2.2.1 y.2.2.1)) → X.cell? ⟨W0.heap.size, 3, none⟩ = some (.int .i64 (cmi x.2.2.2.1 y.2.2.2.1)) → X.cell? ⟨W0.heap.size, 4, none⟩ = some (.int .i64 (cmi x.2.2.2.2 y.2.2.2.2)) →
      Calls Tryd.prog 34 #[.slice (some ⟨W0.heap.size, 0, none⟩) 5 5] X fun e w' => e = .returned (.int .i64 R) ∧ w' = X) := Lib.hid (fun X h0 h1 h2 h3 h4 => by
    rw [CT.out]
    exact orL_any [cmi x.1 y.1, cms x.2.1 y.2.1, cmi x.2.2.1 y.2.2.1, cmi x.2.2.2.1 y.2.2.2.1, cmi x.2.2.2.2 y.2.2.2.2] W0.heap.size X (fun i hi => by
      have hi' : i < 5 := hi
      rcases (by omega : i = 0 ∨ i = 1 ∨ i = 2 ∨ i = 3 ∨ i = 4) with rfl | rfl | rfl | rfl | rfl
      · exact h0
      · exact h1
      · exact h2
      · exact h3
      · exact h4) (by simp))
  go_enter Tryd.func27, Tryd.ntmps27
  go_upto_region 1 with fail
  rw [← HW.out]
  go_region_held3 (fun X => (X.cell? ⟨w.heap.size, 0, none⟩ = some (.int .i64 x.1) ∧ X.cell? ⟨w.heap.size, 1, none⟩ = some (.string x.2.1) ∧ X.cell? ⟨w.heap.size, 2, none⟩ = some (.int .i64 x.2.2.1) ∧ X.cell? ⟨w.heap.size, 3, none⟩ = some (.int .i64 x.2.2.2.1) ∧ X.cell? ⟨w.heap.size, 4, none⟩ = some (.int .i64 x.2.2.2.2)) ∧ X.cell? ⟨w.heap.size + 1, 0, none⟩ = some (.int .i64 y.1) ∧ X.cell? ⟨w.heap.size + 1, 1, none⟩ = some (.string y.2.1) ∧ X.cell? ⟨w.heap.size + 1, 2, none⟩ = some (.int .i64 y.2.2.1) ∧ X.cell? ⟨w.heap.size + 1, 3, none⟩ = some (.int .i64 y.2.2.2.1) ∧ X.cell? ⟨w.heap.size + 1, 4, none⟩ = some (.int .i64 y.2.2.2.2))
    (first | exact HS.out _ (Below.drew (Below.refl _ W0)) | exact HS.out _ (Below.alloc (Below.drew (Below.refl _ W0)) (Nat.le_refl _) _) | exact HS.out _ (Below.drew (Below.alloc (Below.refl _ W0) (Nat.le_refl _) _)))
    (first
    | (go_at_call 35; refine (compare_any _ _ _).mono ?_; rintro e w' ⟨rfl, hw⟩; replace hw := hw.symm; subst hw)
    | (go_at_call 36; refine (compareS_any _ _ _).mono ?_; rintro e w' ⟨rfl, hw⟩; replace hw := hw.symm; subst hw)
    | (go_at_call 34; refine (KO.out _ (by simp) (by simp) (by simp) (by simp) (by simp)).mono ?_; rintro e w' ⟨rfl, hw⟩; replace hw := hw.symm; subst hw))
  have EW : Hid (∃ q os', (W0.alloc (.cells #[.int .i64 (cmi x.1 y.1), .int .i64 (cms x.2.1 y.2.1), .int .i64 (cmi x.2.2.1 y.2.2.1), .int .i64 (cmi x.2.2.2.1 y.2.2.2.1), .int .i64 (cmi x.2.2.2.2 y.2.2.2.2)] 3)).drew = Sort.grow (w.drewN q) os') := Lib.hid (by
    rw [HW.out]
    refine ⟨1, #[(.cells #[.int .i64 x.1, .string x.2.1, .int .i64 x.2.2.1, .int .i64 x.2.2.2.1, .int .i64 x.2.2.2.2] 34)] ++ (#[(.cells #[.int .i64 y.1, .string y.2.1, .int .i64 y.2.2.1, .int .i64 y.2.2.2.1, .int .i64 y.2.2.2.2] 34)] ++ #[(.cells #[.int .i64 (cmi x.1 y.1), .int .i64 (cms x.2.1 y.2.1), .int .i64 (cmi x.2.2.1 y.2.2.1), .int .i64 (cmi x.2.2.2.1 y.2.2.2.1), .int .i64 (cmi x.2.2.2.2 y.2.2.2.2)] 3)]), ?_⟩
    show (((w.drewN 1).alloc (.cells #[.int .i64 x.1, .string x.2.1, .int .i64 x.2.2.1, .int .i64 x.2.2.2.1, .int .i64 x.2.2.2.2] 34)).alloc (.cells #[.int .i64 y.1, .string y.2.1, .int .i64 y.2.2.1, .int .i64 y.2.2.2.1, .int .i64 y.2.2.2.2] 34)).alloc (.cells #[.int .i64 (cmi x.1 y.1), .int .i64 (cms x.2.1 y.2.1), .int .i64 (cmi x.2.2.1 y.2.2.1), .int .i64 (cmi x.2.2.2.1 y.2.2.2.1), .int .i64 (cmi x.2.2.2.2 y.2.2.2.2)] 3) = _
    rw [Sort.alloc_eq_grow, Sort.alloc_eq_grow, Sort.alloc_eq_grow, Sort.grow_grow, Sort.grow_grow])
  go_wp2
  go_ret
  exact ⟨rfl, EW.out⟩
/-- A ring as it is handed on. -/
abbrev agQ (x : Rq) : Value := .agg #[.int .i64 x.1, .string x.2.1, .int .i64 x.2.2.1, .int .i64 x.2.2.2.1, .int .i64 x.2.2.2.2]
theorem order_any (x y : Rq) (w : World) : Calls Tryd.prog 27 #[agQ x, agQ y] w fun e w' => e = .returned (.int .i64 (oc x y)) ∧ Below w.heap.size w w' :=
  (order_run x y w).mono fun e w' ⟨he, q, os', hw⟩ => ⟨he, by
    rw [hw]
    exact ⟨rfl, rfl, rfl, by simp [Sort.grow], fun k hk => by
      show (w.heap ++ os')[k]? = _
      rw [Array.getElem?_append_left hk]⟩⟩
end Go.Proofs.YtpnbnnndpbjgmaaDoor.Qu
