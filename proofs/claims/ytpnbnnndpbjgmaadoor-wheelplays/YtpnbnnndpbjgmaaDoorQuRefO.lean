/-
  What is proved here: what the document's Order answers of any two rings, whatever their names (a contract over the translation).
-/
import Derived.Test.YtpnbnnndpbjgmaaDoorQuEq
import Derived.BigQuiet
namespace Go.Proofs.YtpnbnnndpbjgmaaDoor.Qu
open Go.RowKit

theorem cmi_z {a b : Int} : cmi a b = 0 ↔ a = b := cmi_cm.eq a b
def Dra (w w' : World) : Prop := ∃ q, w' = w.drewN q
theorem Dra.refl (w : World) : Dra w w := ⟨0, rfl⟩
theorem Dra.step {w w' : World} (h : Dra w w') (n : Nat) : Dra w (w'.drewN n) := by
  obtain ⟨q, rfl⟩ := h
  exact ⟨q + n, World.drewN_drewN _ _ _⟩
theorem Dra.cell {w w' : World} (h : Dra w w') (a : Addr) : w'.cell? a = w.cell? a := by
  obtain ⟨q, rfl⟩ := h
  rfl
theorem Dra.below {w w' : World} (h : Dra w w') (n0 : Nat) : Below n0 w w' := by
  obtain ⟨q, rfl⟩ := h
  exact ⟨rfl, rfl, rfl, Nat.le_refl _, fun _ _ => rfl⟩
theorem zip_at {X Y : List Int} (h : X.length = Y.length) (k : Nat) (hk : k < X.length) : (List.zipWith cmi X Y).getD k 0 = cmi (X.getD k 0) (Y.getD k 0) := by
  rw [List.getD_eq_getElem?_getD, List.getElem?_zipWith, List.getD_eq_getElem?_getD, List.getD_eq_getElem?_getD, List.getElem?_eq_getElem hk, List.getElem?_eq_getElem (by omega)]
  rfl
/-- How two rows stand that are the same ahead. -/
theorem zip_or {X Y : List Int} (h : X.length = Y.length) (k : Nat) (hk : k < X.length) (hz : ∀ j, j < k → X.getD j 0 = Y.getD j 0) : (X.getD k 0 < Y.getD k 0 → orL (List.zipWith cmi X Y) = -1) ∧ (Y.getD k 0 < X.getD k 0 → orL (List.zipWith cmi X Y) = 1) := by
  have hl : (List.zipWith cmi X Y).length = X.length := by rw [List.length_zipWith]; omega
  have z0 : ∀ j, j < k → (List.zipWith cmi X Y).getD j 0 = 0 := fun j hj => by rw [zip_at h j (by omega)]; exact cmi_z.2 (hz j hj)
  constructor
  · intro q
    have e : cmi (X.getD k 0) (Y.getD k 0) = -1 := if_pos q
    rw [orL_at _ k (by omega) z0 (by rw [zip_at h k hk, e]; decide), zip_at h k hk, e]
  · intro q
    have e : cmi (X.getD k 0) (Y.getD k 0) = 1 := by unfold cmi; rw [if_neg (by omega), if_pos q]
    rw [orL_at _ k (by omega) z0 (by rw [zip_at h k hk, e]; decide), zip_at h k hk, e]
theorem zip_end {X Y : List Int} (h : X.length = Y.length) (hz : ∀ j, j < X.length → X.getD j 0 = Y.getD j 0) : orL (List.zipWith cmi X Y) = 0 := by
  have hl : (List.zipWith cmi X Y).length = X.length := by rw [List.length_zipWith]; omega
  exact orL_end _ (fun j hj => by rw [zip_at h j (by omega)]; exact cmi_z.2 (hz j (by omega)))
theorem oc_zip {x y : Rq} {c d : Int} (h : cms x.2.1 y.2.1 = cmi c d) : oc x y = orL (List.zipWith cmi [x.1, c, x.2.2.1, x.2.2.2.1, x.2.2.2.2] [y.1, d, y.2.2.1, y.2.2.2.1, y.2.2.2.2]) := by
  unfold oc
  rw [h]; rfl
/-- Five numbers lie in a block. -/
def Fiv (W : World) (b : Nat) (X : List Int) : Prop := ∀ j, j < 5 → W.cell? ⟨b, j, none⟩ = some (.int .i64 (X.getD j 0))
theorem Fiv.new (W : World) (a b c d e : Int) (t : TypeId) : Fiv (W.alloc (.cells #[.int .i64 a, .int .i64 b, .int .i64 c, .int .i64 d, .int .i64 e] t)) W.heap.size [a, b, c, d, e] := by
  intro j hj
  have : j = 0 ∨ j = 1 ∨ j = 2 ∨ j = 3 ∨ j = 4 := by omega
  rcases this with rfl | rfl | rfl | rfl | rfl <;> simp
theorem Fiv.on {W W' : World} {b : Nat} {X : List Int} (h : Fiv W b X) (q : Below W.heap.size W W') : Fiv W' b X := fun j hj => (q.cell (p := ⟨b, j, none⟩) (cell_in (h j hj))).trans (h j hj)
theorem fiv_two (w : World) (A B : Obj) (a b c d e p q r s t : Int) (T : TypeId) : Fiv ((((w.alloc A).alloc B).alloc (.cells #[.int .i64 a, .int .i64 b, .int .i64 c, .int .i64 d, .int .i64 e] T)).alloc (.cells #[.int .i64 p, .int .i64 q, .int .i64 r, .int .i64 s, .int .i64 t] T)) (w.heap.size + 1 + 1) [a, b, c, d, e] ∧ Fiv ((((w.alloc A).alloc B).alloc (.cells #[.int .i64 a, .int .i64 b, .int .i64 c, .int .i64 d, .int .i64 e] T)).alloc (.cells #[.int .i64 p, .int .i64 q, .int .i64 r, .int .i64 s, .int .i64 t] T)) (w.heap.size + 1 + 1 + 1) [p, q, r, s, t] ∧ Below w.heap.size w ((((w.alloc A).alloc B).alloc (.cells #[.int .i64 a, .int .i64 b, .int .i64 c, .int .i64 d, .int .i64 e] T)).alloc (.cells #[.int .i64 p, .int .i64 q, .int .i64 r, .int .i64 s, .int .i64 t] T)) := by
  obtain ⟨W2, h2⟩ : ∃ W2, W2 = (w.alloc A).alloc B := ⟨_, rfl⟩
  have s2 : W2.heap.size = w.heap.size + 1 + 1 := by rw [h2, World.size_alloc, World.size_alloc]
  have b2 : Below w.heap.size w W2 := by rw [h2]; exact ((Below.refl _ _).alloc (Nat.le_refl _) _).alloc (by rw [World.size_alloc]; omega) _
  rw [← h2, ← s2]
  obtain ⟨W3, h3⟩ : ∃ W3, W3 = W2.alloc (.cells #[.int .i64 a, .int .i64 b, .int .i64 c, .int .i64 d, .int .i64 e] T) := ⟨_, rfl⟩
  have s3 : W3.heap.size = W2.heap.size + 1 := by rw [h3, World.size_alloc]
  have b3 : Below w.heap.size w W3 := by rw [h3]; exact b2.alloc b2.size _
  have f3 : Fiv W3 W2.heap.size [a, b, c, d, e] := by rw [h3]; exact Fiv.new _ _ _ _ _ _ _
  rw [← h3, ← s3]
  exact ⟨f3.on ((Below.refl _ _).alloc (Nat.le_refl _) _), Fiv.new _ _ _ _ _ _ _, b3.alloc b3.size _⟩
set_option maxRecDepth 100000 in
set_option maxHeartbeats 8000000 in
theorem refOrder_any (x y : Rq) (w : World) :
    Calls Tryd.prog 19 #[agQ x, agQ y] w fun e w' => e = .returned (.int .i64 (oc x y)) ∧ Below w.heap.size w w' := by
  obtain ⟨x1, m, x2, x3, x4⟩ := x
  obtain ⟨y1, n, y2, y3, y4⟩ := y
  dsimp only [agQ]
  rcases h1 : Op.bytesLess m.toList n.toList with _ | _
  · rcases h2 : (m.toList == n.toList) with _ | _
    · have EC := Lib.hid (oc_zip (x := (x1, m, x2, x3, x4)) (y := (y1, n, y2, y3, y4)) (show cms m n = cmi 1 0 from by unfold cms; rw [if_neg (by rw [h1]; decide), if_pos (by rw [h1, h2]; rfl)]; rfl))
      rw [EC.out]
      clear EC
      dsimp only
      have ZO := Lib.hid (fun k hk hz => zip_or (X := [x1, 1, x2, x3, x4]) (Y := [y1, 0, y2, y3, y4]) rfl k hk hz)
      have ZE := Lib.hid (fun hz => zip_end (X := [x1, 1, x2, x3, x4]) (Y := [y1, 0, y2, y3, y4]) rfl hz)
      generalize orL (List.zipWith cmi [x1, 1, x2, x3, x4] [y1, 0, y2, y3, y4]) = R at ZO ZE ⊢
      go_enter Tryd.func19, Tryd.ntmps19
      go_upto_region 7 with fail
      obtain ⟨W, hW⟩ : ∃ W, W = (((w.alloc (.cells #[.int .i64 x1, .string m, .int .i64 x2, .int .i64 x3, .int .i64 x4] 34)).alloc (.cells #[.int .i64 y1, .string n, .int .i64 y2, .int .i64 y3, .int .i64 y4] 34)).alloc (.cells #[.int .i64 x1, .int .i64 1, .int .i64 x2, .int .i64 x3, .int .i64 x4] 3)).alloc (.cells #[.int .i64 y1, .int .i64 0, .int .i64 y2, .int .i64 y3, .int .i64 y4] 3) := ⟨_, rfl⟩
      have F3 := fiv_two w (.cells #[.int .i64 x1, .string m, .int .i64 x2, .int .i64 x3, .int .i64 x4] 34) (.cells #[.int .i64 y1, .string n, .int .i64 y2, .int .i64 y3, .int .i64 y4] 34) x1 1 x2 x3 x4 y1 0 y2 y3 y4 3
      rw [← hW] at F3
      have FX := Lib.hid F3.1
      have FY := Lib.hid F3.2.1
      have BW := Lib.hid F3.2.2
      clear F3
      rw [← hW]
      clear hW
      go_wp2_with fail
      go_loopw [7] (fun iv wr => ∃ k : Nat, k ≤ 5 ∧ iv = .int .i64 k ∧ (∀ j, j < k → ([x1, 1, x2, x3, x4] : List Int).getD j 0 = ([y1, 0, y2, y3, y4] : List Int).getD j 0) ∧ Dra W wr) (fun iv _ => 5 - (intOf iv).toNat)
      case atStart => exact ⟨0, by omega, rfl, fun j q => by omega, Dra.refl _⟩
      case round =>
        obtain ⟨k, hk, rfl, hz, hD⟩ := hrel
        have HD := Lib.hid hD
        have HZ := Lib.hid hz
        by_cases hlt : k < 5
        · have c1 := (hD.cell ⟨w.heap.size + 1 + 1, k, none⟩).trans (FX.out k hlt)
          have c2 := (hD.cell ⟨w.heap.size + 1 + 1 + 1, k, none⟩).trans (FY.out k hlt)
          have l1 := cell_in c1
          have l2 := cell_in c2
          have ZK := Lib.hid (ZO.out k hlt hz)
          have NX : Hid (([x1, 1, x2, x3, x4] : List Int).getD k 0 = ([y1, 0, y2, y3, y4] : List Int).getD k 0 → ∀ j, j < k + 1 → ([x1, 1, x2, x3, x4] : List Int).getD j 0 = ([y1, 0, y2, y3, y4] : List Int).getD j 0) := Lib.hid (fun q j hj => by
            rcases (by omega : j < k ∨ j = k) with z | z
            · exact HZ.out j z
            · rw [z]; exact q)
          clear hz hD
          generalize ([x1, 1, x2, x3, x4] : List Int).getD k 0 = P at c1 ZK NX
          generalize ([y1, 0, y2, y3, y4] : List Int).getD k 0 = Q at c2 ZK NX
          by_cases h1 : P < Q
          · have E := Lib.hid (ZK.out.1 h1)
            clear NX ZK
            go_wp2_with fail
            go_quiet (fail)
            go_wp2
            go_ret
            exact ⟨ret_int E.out.symm, BW.out.trans ((HD.out.step _).below _)⟩
          by_cases h2 : Q < P
          · have E := Lib.hid (ZK.out.2 h2)
            clear NX ZK
            go_wp2_with fail
            go_quiet (fail)
            have HD2 := Lib.hid (HD.out.step nq)
            generalize wr.drewN nq = wy at *
            have c1 := (HD2.out.cell ⟨w.heap.size + 1 + 1, k, none⟩).trans ((HD.out.cell _).symm.trans c1)
            have c2 := (HD2.out.cell ⟨w.heap.size + 1 + 1 + 1, k, none⟩).trans ((HD.out.cell _).symm.trans c2)
            have l1 := cell_in c1
            have l2 := cell_in c2
            go_wp2_with fail
            go_quiet (fail)
            go_wp2
            go_ret
            exact ⟨ret_int E.out.symm, BW.out.trans ((HD2.out.step _).below _)⟩
          · have E := Lib.hid (NX.out (by omega))
            clear NX ZK
            go_wp2_with fail
            go_quiet (fail)
            have HD2 := Lib.hid (HD.out.step nq)
            generalize wr.drewN nq = wy at *
            have c1 := (HD2.out.cell ⟨w.heap.size + 1 + 1, k, none⟩).trans ((HD.out.cell _).symm.trans c1)
            have c2 := (HD2.out.cell ⟨w.heap.size + 1 + 1 + 1, k, none⟩).trans ((HD.out.cell _).symm.trans c2)
            have l1 := cell_in c1
            have l2 := cell_in c2
            go_wp2_with fail
            go_quiet (fail)
            go_wp2
            go_roundw
            case rel => exact ⟨k + 1, by omega, by go_num, E.out, HD2.out.step _⟩
            case measure => simp [intOf]; omega
        · have E := Lib.hid (ZE.out (fun j hj => HZ.out j (by have : j < 5 := hj; omega)))
          clear hz hD
          go_wp2
          go_ret
          exact ⟨ret_int E.out.symm, BW.out.trans (HD.out.below _)⟩
    · have EC := Lib.hid (oc_zip (x := (x1, m, x2, x3, x4)) (y := (y1, n, y2, y3, y4)) (show cms m n = cmi 0 0 from by unfold cms; rw [if_neg (by rw [h1]; decide), if_neg (by rw [h1, h2]; decide)]; rfl))
      rw [EC.out]
      clear EC
      dsimp only
      have ZO := Lib.hid (fun k hk hz => zip_or (X := [x1, 0, x2, x3, x4]) (Y := [y1, 0, y2, y3, y4]) rfl k hk hz)
      have ZE := Lib.hid (fun hz => zip_end (X := [x1, 0, x2, x3, x4]) (Y := [y1, 0, y2, y3, y4]) rfl hz)
      generalize orL (List.zipWith cmi [x1, 0, x2, x3, x4] [y1, 0, y2, y3, y4]) = R at ZO ZE ⊢
      go_enter Tryd.func19, Tryd.ntmps19
      go_upto_region 7 with fail
      obtain ⟨W, hW⟩ : ∃ W, W = (((w.alloc (.cells #[.int .i64 x1, .string m, .int .i64 x2, .int .i64 x3, .int .i64 x4] 34)).alloc (.cells #[.int .i64 y1, .string n, .int .i64 y2, .int .i64 y3, .int .i64 y4] 34)).alloc (.cells #[.int .i64 x1, .int .i64 0, .int .i64 x2, .int .i64 x3, .int .i64 x4] 3)).alloc (.cells #[.int .i64 y1, .int .i64 0, .int .i64 y2, .int .i64 y3, .int .i64 y4] 3) := ⟨_, rfl⟩
      have F3 := fiv_two w (.cells #[.int .i64 x1, .string m, .int .i64 x2, .int .i64 x3, .int .i64 x4] 34) (.cells #[.int .i64 y1, .string n, .int .i64 y2, .int .i64 y3, .int .i64 y4] 34) x1 0 x2 x3 x4 y1 0 y2 y3 y4 3
      rw [← hW] at F3
      have FX := Lib.hid F3.1
      have FY := Lib.hid F3.2.1
      have BW := Lib.hid F3.2.2
      clear F3
      rw [← hW]
      clear hW
      go_wp2_with fail
      go_loopw [7] (fun iv wr => ∃ k : Nat, k ≤ 5 ∧ iv = .int .i64 k ∧ (∀ j, j < k → ([x1, 0, x2, x3, x4] : List Int).getD j 0 = ([y1, 0, y2, y3, y4] : List Int).getD j 0) ∧ Dra W wr) (fun iv _ => 5 - (intOf iv).toNat)
      case atStart => exact ⟨0, by omega, rfl, fun j q => by omega, Dra.refl _⟩
      case round =>
        obtain ⟨k, hk, rfl, hz, hD⟩ := hrel
        have HD := Lib.hid hD
        have HZ := Lib.hid hz
        by_cases hlt : k < 5
        · have c1 := (hD.cell ⟨w.heap.size + 1 + 1, k, none⟩).trans (FX.out k hlt)
          have c2 := (hD.cell ⟨w.heap.size + 1 + 1 + 1, k, none⟩).trans (FY.out k hlt)
          have l1 := cell_in c1
          have l2 := cell_in c2
          have ZK := Lib.hid (ZO.out k hlt hz)
          have NX : Hid (([x1, 0, x2, x3, x4] : List Int).getD k 0 = ([y1, 0, y2, y3, y4] : List Int).getD k 0 → ∀ j, j < k + 1 → ([x1, 0, x2, x3, x4] : List Int).getD j 0 = ([y1, 0, y2, y3, y4] : List Int).getD j 0) := Lib.hid (fun q j hj => by
            rcases (by omega : j < k ∨ j = k) with z | z
            · exact HZ.out j z
            · rw [z]; exact q)
          clear hz hD
          generalize ([x1, 0, x2, x3, x4] : List Int).getD k 0 = P at c1 ZK NX
          generalize ([y1, 0, y2, y3, y4] : List Int).getD k 0 = Q at c2 ZK NX
          by_cases h1 : P < Q
          · have E := Lib.hid (ZK.out.1 h1)
            clear NX ZK
            go_wp2_with fail
            go_quiet (fail)
            go_wp2
            go_ret
            exact ⟨ret_int E.out.symm, BW.out.trans ((HD.out.step _).below _)⟩
          by_cases h2 : Q < P
          · have E := Lib.hid (ZK.out.2 h2)
            clear NX ZK
            go_wp2_with fail
            go_quiet (fail)
            have HD2 := Lib.hid (HD.out.step nq)
            generalize wr.drewN nq = wy at *
            have c1 := (HD2.out.cell ⟨w.heap.size + 1 + 1, k, none⟩).trans ((HD.out.cell _).symm.trans c1)
            have c2 := (HD2.out.cell ⟨w.heap.size + 1 + 1 + 1, k, none⟩).trans ((HD.out.cell _).symm.trans c2)
            have l1 := cell_in c1
            have l2 := cell_in c2
            go_wp2_with fail
            go_quiet (fail)
            go_wp2
            go_ret
            exact ⟨ret_int E.out.symm, BW.out.trans ((HD2.out.step _).below _)⟩
          · have E := Lib.hid (NX.out (by omega))
            clear NX ZK
            go_wp2_with fail
            go_quiet (fail)
            have HD2 := Lib.hid (HD.out.step nq)
            generalize wr.drewN nq = wy at *
            have c1 := (HD2.out.cell ⟨w.heap.size + 1 + 1, k, none⟩).trans ((HD.out.cell _).symm.trans c1)
            have c2 := (HD2.out.cell ⟨w.heap.size + 1 + 1 + 1, k, none⟩).trans ((HD.out.cell _).symm.trans c2)
            have l1 := cell_in c1
            have l2 := cell_in c2
            go_wp2_with fail
            go_quiet (fail)
            go_wp2
            go_roundw
            case rel => exact ⟨k + 1, by omega, by go_num, E.out, HD2.out.step _⟩
            case measure => simp [intOf]; omega
        · have E := Lib.hid (ZE.out (fun j hj => HZ.out j (by have : j < 5 := hj; omega)))
          clear hz hD
          go_wp2
          go_ret
          exact ⟨ret_int E.out.symm, BW.out.trans (HD.out.below _)⟩
  · have EC := Lib.hid (oc_zip (x := (x1, m, x2, x3, x4)) (y := (y1, n, y2, y3, y4)) (show cms m n = cmi 0 1 from if_pos h1))
    rw [EC.out]
    clear EC
    dsimp only
    have ZO := Lib.hid (fun k hk hz => zip_or (X := [x1, 0, x2, x3, x4]) (Y := [y1, 1, y2, y3, y4]) rfl k hk hz)
    have ZE := Lib.hid (fun hz => zip_end (X := [x1, 0, x2, x3, x4]) (Y := [y1, 1, y2, y3, y4]) rfl hz)
    generalize orL (List.zipWith cmi [x1, 0, x2, x3, x4] [y1, 1, y2, y3, y4]) = R at ZO ZE ⊢
    go_enter Tryd.func19, Tryd.ntmps19
    go_upto_region 7 with fail
    obtain ⟨W, hW⟩ : ∃ W, W = (((w.alloc (.cells #[.int .i64 x1, .string m, .int .i64 x2, .int .i64 x3, .int .i64 x4] 34)).alloc (.cells #[.int .i64 y1, .string n, .int .i64 y2, .int .i64 y3, .int .i64 y4] 34)).alloc (.cells #[.int .i64 x1, .int .i64 0, .int .i64 x2, .int .i64 x3, .int .i64 x4] 3)).alloc (.cells #[.int .i64 y1, .int .i64 1, .int .i64 y2, .int .i64 y3, .int .i64 y4] 3) := ⟨_, rfl⟩
    have F3 := fiv_two w (.cells #[.int .i64 x1, .string m, .int .i64 x2, .int .i64 x3, .int .i64 x4] 34) (.cells #[.int .i64 y1, .string n, .int .i64 y2, .int .i64 y3, .int .i64 y4] 34) x1 0 x2 x3 x4 y1 1 y2 y3 y4 3
    rw [← hW] at F3
    have FX := Lib.hid F3.1
    have FY := Lib.hid F3.2.1
    have BW := Lib.hid F3.2.2
    clear F3
    rw [← hW]
    clear hW
    go_wp2_with fail
    go_loopw [7] (fun iv wr => ∃ k : Nat, k ≤ 5 ∧ iv = .int .i64 k ∧ (∀ j, j < k → ([x1, 0, x2, x3, x4] : List Int).getD j 0 = ([y1, 1, y2, y3, y4] : List Int).getD j 0) ∧ Dra W wr) (fun iv _ => 5 - (intOf iv).toNat)
    case atStart => exact ⟨0, by omega, rfl, fun j q => by omega, Dra.refl _⟩
    case round =>
      obtain ⟨k, hk, rfl, hz, hD⟩ := hrel
      have HD := Lib.hid hD
      have HZ := Lib.hid hz
      by_cases hlt : k < 5
      · have c1 := (hD.cell ⟨w.heap.size + 1 + 1, k, none⟩).trans (FX.out k hlt)
        have c2 := (hD.cell ⟨w.heap.size + 1 + 1 + 1, k, none⟩).trans (FY.out k hlt)
        have l1 := cell_in c1
        have l2 := cell_in c2
        have ZK := Lib.hid (ZO.out k hlt hz)
        have NX : Hid (([x1, 0, x2, x3, x4] : List Int).getD k 0 = ([y1, 1, y2, y3, y4] : List Int).getD k 0 → ∀ j, j < k + 1 → ([x1, 0, x2, x3, x4] : List Int).getD j 0 = ([y1, 1, y2, y3, y4] : List Int).getD j 0) := Lib.hid (fun q j hj => by
          rcases (by omega : j < k ∨ j = k) with z | z
          · exact HZ.out j z
          · rw [z]; exact q)
        clear hz hD
        generalize ([x1, 0, x2, x3, x4] : List Int).getD k 0 = P at c1 ZK NX
        generalize ([y1, 1, y2, y3, y4] : List Int).getD k 0 = Q at c2 ZK NX
        by_cases h1 : P < Q
        · have E := Lib.hid (ZK.out.1 h1)
          clear NX ZK
          go_wp2_with fail
          go_quiet (fail)
          go_wp2
          go_ret
          exact ⟨ret_int E.out.symm, BW.out.trans ((HD.out.step _).below _)⟩
        by_cases h2 : Q < P
        · have E := Lib.hid (ZK.out.2 h2)
          clear NX ZK
          go_wp2_with fail
          go_quiet (fail)
          have HD2 := Lib.hid (HD.out.step nq)
          generalize wr.drewN nq = wy at *
          have c1 := (HD2.out.cell ⟨w.heap.size + 1 + 1, k, none⟩).trans ((HD.out.cell _).symm.trans c1)
          have c2 := (HD2.out.cell ⟨w.heap.size + 1 + 1 + 1, k, none⟩).trans ((HD.out.cell _).symm.trans c2)
          have l1 := cell_in c1
          have l2 := cell_in c2
          go_wp2_with fail
          go_quiet (fail)
          go_wp2
          go_ret
          exact ⟨ret_int E.out.symm, BW.out.trans ((HD2.out.step _).below _)⟩
        · have E := Lib.hid (NX.out (by omega))
          clear NX ZK
          go_wp2_with fail
          go_quiet (fail)
          have HD2 := Lib.hid (HD.out.step nq)
          generalize wr.drewN nq = wy at *
          have c1 := (HD2.out.cell ⟨w.heap.size + 1 + 1, k, none⟩).trans ((HD.out.cell _).symm.trans c1)
          have c2 := (HD2.out.cell ⟨w.heap.size + 1 + 1 + 1, k, none⟩).trans ((HD.out.cell _).symm.trans c2)
          have l1 := cell_in c1
          have l2 := cell_in c2
          go_wp2_with fail
          go_quiet (fail)
          go_wp2
          go_roundw
          case rel => exact ⟨k + 1, by omega, by go_num, E.out, HD2.out.step _⟩
          case measure => simp [intOf]; omega
      · have E := Lib.hid (ZE.out (fun j hj => HZ.out j (by have : j < 5 := hj; omega)))
        clear hz hD
        go_wp2
        go_ret
        exact ⟨ret_int E.out.symm, BW.out.trans (HD.out.below _)⟩
end Go.Proofs.YtpnbnnndpbjgmaaDoor.Qu
