/-
  What is proved here: what the document's Order answers of any two rings (a contract over the translation).
  What is proved here: what the document's Add answers of a list of one event's rings in order, and another such ring (a contract over the translation).
  What is proved here: plain facts on the document's list of rings: it holds those that the program tells, each once.
  What is proved here: what the document's Rings answers of an event and a zone that are right (a contract over the translation).
-/
import Derived.Test.YtoncfgfjdlgfcaaGreatDoorAX
import Derived.Test.YtoncfgfjdlgfcaaGreatDoorBZ
import Derived.BigQuiet
import Derived.Lib.QuietBelow
import Derived.Deep.Cut
import Derived.Deep.CutRange
import Derived.Deep.CutBlock
import Derived.Test.YtoncfgfjdlgfcaaGreatDoorRefTi3
import Derived.Deep.RegionHeld3
import Derived.Test.YtoncfgfjdlgfcaaGreatDoorBF
namespace Go.Proofs.YtoncfgfjdlgfcaaGreatDoor
open Go.RowKit Cal Txt

theorem zip_at {X Y : List Int} (h : X.length = Y.length) (k : Nat) (hk : k < X.length) : (List.zipWith cmi X Y).getD k 0 = cmi (X.getD k 0) (Y.getD k 0) := by
  rw [List.getD_eq_getElem?_getD, List.getElem?_zipWith, List.getD_eq_getElem?_getD, List.getD_eq_getElem?_getD, List.getElem?_eq_getElem hk, List.getElem?_eq_getElem (by omega)]
  rfl
/-- How two rows stand that are the same ahead. -/
theorem zip_or {X Y : List Int} (h : X.length = Y.length) (k : Nat) (hk : k < X.length) (hz : ∀ j, j < k → X.getD j 0 = Y.getD j 0) : (X.getD k 0 < Y.getD k 0 → orL (List.zipWith cmi X Y) = -1) ∧ (Y.getD k 0 < X.getD k 0 → orL (List.zipWith cmi X Y) = 1) := by
  have hl : (List.zipWith cmi X Y).length = X.length := by rw [List.length_zipWith]; omega
  have z0 : ∀ j, j < k → (List.zipWith cmi X Y).getD j 0 = 0 := fun j hj => by rw [zip_at h j (by omega)]; exact cmi_z.2 (hz j hj)
  constructor
  · intro q
    have e : cmi (X.getD k 0) (Y.getD k 0) = -1 := if_pos q
    rw [orL_at _ k (by omega) z0 (by rw [zip_at h k hk, e]; decide), zip_at h k hk, e]
  · intro q
    have e : cmi (X.getD k 0) (Y.getD k 0) = 1 := by unfold cmi; rw [if_neg (by omega), if_pos q]
    rw [orL_at _ k (by omega) z0 (by rw [zip_at h k hk, e]; decide), zip_at h k hk, e]
theorem zip_end {X Y : List Int} (h : X.length = Y.length) (hz : ∀ j, j < X.length → X.getD j 0 = Y.getD j 0) : orL (List.zipWith cmi X Y) = 0 := by
  have hl : (List.zipWith cmi X Y).length = X.length := by rw [List.length_zipWith]; omega
  exact orL_end _ (fun j hj => by rw [zip_at h j (by omega)]; exact cmi_z.2 (hz j (by omega)))
theorem cmR_zip {m n : ByteArray} {x y : Rg} {c d : Int} (h : cms m n = cmi c d) : cmR m n x y = orL (List.zipWith cmi [x.1, c, x.2.1, x.2.2.1, x.2.2.2] [y.1, d, y.2.1, y.2.2.1, y.2.2.2]) := by
  unfold cmR
  rw [h]; rfl
/-- Five numbers lie in a block. -/
def Fiv (W : World) (b : Nat) (X : List Int) : Prop := ∀ j, j < 5 → W.cell? ⟨b, j, none⟩ = some (.int .i64 (X.getD j 0))
theorem Fiv.new (W : World) (a b c d e : Int) (t : TypeId) : Fiv (W.alloc (.cells #[.int .i64 a, .int .i64 b, .int .i64 c, .int .i64 d, .int .i64 e] t)) W.heap.size [a, b, c, d, e] := by
  intro j hj
  have : j = 0 ∨ j = 1 ∨ j = 2 ∨ j = 3 ∨ j = 4 := by omega
  rcases this with rfl | rfl | rfl | rfl | rfl <;> simp
theorem Fiv.on {W W' : World} {b : Nat} {X : List Int} (h : Fiv W b X) (q : Below W.heap.size W W') : Fiv W' b X := fun j hj => (q.cell (p := ⟨b, j, none⟩) (ecell_in (h j hj))).trans (h j hj)
theorem fiv_two (w : World) (A B : Obj) (a b c d e p q r s t : Int) (T : TypeId) : Fiv ((((w.alloc A).alloc B).alloc (.cells #[.int .i64 a, .int .i64 b, .int .i64 c, .int .i64 d, .int .i64 e] T)).alloc (.cells #[.int .i64 p, .int .i64 q, .int .i64 r, .int .i64 s, .int .i64 t] T)) (w.heap.size + 1 + 1) [a, b, c, d, e] ∧ Fiv ((((w.alloc A).alloc B).alloc (.cells #[.int .i64 a, .int .i64 b, .int .i64 c, .int .i64 d, .int .i64 e] T)).alloc (.cells #[.int .i64 p, .int .i64 q, .int .i64 r, .int .i64 s, .int .i64 t] T)) (w.heap.size + 1 + 1 + 1) [p, q, r, s, t] ∧ Below w.heap.size w ((((w.alloc A).alloc B).alloc (.cells #[.int .i64 a, .int .i64 b, .int .i64 c, .int .i64 d, .int .i64 e] T)).alloc (.cells #[.int .i64 p, .int .i64 q, .int .i64 r, .int .i64 s, .int .i64 t] T)) := by
  obtain ⟨W2, h2⟩ : ∃ W2, W2 = (w.alloc A).alloc B := ⟨_, rfl⟩
  have s2 : W2.heap.size = w.heap.size + 1 + 1 := by rw [h2, World.size_alloc, World.size_alloc]
  have b2 : Below w.heap.size w W2 := by rw [h2]; exact ((Below.refl _ _).alloc (Nat.le_refl _) _).alloc (by rw [World.size_alloc]; omega) _
  rw [← h2, ← s2]
  obtain ⟨W3, h3⟩ : ∃ W3, W3 = W2.alloc (.cells #[.int .i64 a, .int .i64 b, .int .i64 c, .int .i64 d, .int .i64 e] T) := ⟨_, rfl⟩
  have s3 : W3.heap.size = W2.heap.size + 1 := by rw [h3, World.size_alloc]
  have b3 : Below w.heap.size w W3 := by rw [h3]; exact b2.alloc b2.size _
  have f3 : Fiv W3 W2.heap.size [a, b, c, d, e] := by rw [h3]; exact Fiv.new _ _ _ _ _ _ _
  rw [← h3, ← s3]
  exact ⟨f3.on ((Below.refl _ _).alloc (Nat.le_refl _) _), Fiv.new _ _ _ _ _ _ _, b3.alloc b3.size _⟩
set_option maxRecDepth 100000 in
set_option maxHeartbeats 8000000 in
theorem refOrder_any (m n : ByteArray) (x y : Rg) (w : World) :
    Calls Tryz.prog 30 #[.agg #[.int .i64 x.1, .string m, .int .i64 x.2.1, .int .i64 x.2.2.1, .int .i64 x.2.2.2], .agg #[.int .i64 y.1, .string n, .int .i64 y.2.1, .int .i64 y.2.2.1, .int .i64 y.2.2.2]] w fun e w' => e = .returned (.int .i64 (cmR m n x y)) ∧ Below w.heap.size w w' := by
  obtain ⟨x1, x2, x3, x4⟩ := x
  obtain ⟨y1, y2, y3, y4⟩ := y
  dsimp only
  rcases h1 : Op.bytesLess m.toList n.toList with _ | _
  · rcases h2 : (m.toList == n.toList) with _ | _
    · have EC := Lib.hid (cmR_zip (x := (x1, x2, x3, x4)) (y := (y1, y2, y3, y4)) (show cms m n = cmi 1 0 from by unfold cms; rw [if_neg (by rw [h1]; decide), if_pos (by rw [h1, h2]; rfl)]; rfl))
      rw [EC.out]
      clear EC
      dsimp only
      have ZO := Lib.hid (fun k hk hz => zip_or (X := [x1, 1, x2, x3, x4]) (Y := [y1, 0, y2, y3, y4]) rfl k hk hz)
      have ZE := Lib.hid (fun hz => zip_end (X := [x1, 1, x2, x3, x4]) (Y := [y1, 0, y2, y3, y4]) rfl hz)
      generalize orL (List.zipWith cmi [x1, 1, x2, x3, x4] [y1, 0, y2, y3, y4]) = R at ZO ZE ⊢
      go_enter Tryz.func30, Tryz.ntmps30
      go_upto_region 7 with fail
      obtain ⟨W, hW⟩ : ∃ W, W = (((w.alloc (.cells #[.int .i64 x1, .string m, .int .i64 x2, .int .i64 x3, .int .i64 x4] 73)).alloc (.cells #[.int .i64 y1, .string n, .int .i64 y2, .int .i64 y3, .int .i64 y4] 73)).alloc (.cells #[.int .i64 x1, .int .i64 1, .int .i64 x2, .int .i64 x3, .int .i64 x4] 3)).alloc (.cells #[.int .i64 y1, .int .i64 0, .int .i64 y2, .int .i64 y3, .int .i64 y4] 3) := ⟨_, rfl⟩
      have F3 := fiv_two w (.cells #[.int .i64 x1, .string m, .int .i64 x2, .int .i64 x3, .int .i64 x4] 73) (.cells #[.int .i64 y1, .string n, .int .i64 y2, .int .i64 y3, .int .i64 y4] 73) x1 1 x2 x3 x4 y1 0 y2 y3 y4 3
      rw [← hW] at F3
      have FX := Lib.hid F3.1
      have FY := Lib.hid F3.2.1
      have BW := Lib.hid F3.2.2
      clear F3
      rw [← hW]
      clear hW
      go_wp2_with fail
      go_loopw [7] (fun iv wr => ∃ k : Nat, k ≤ 5 ∧ iv = .int .i64 k ∧ (∀ j, j < k → ([x1, 1, x2, x3, x4] : List Int).getD j 0 = ([y1, 0, y2, y3, y4] : List Int).getD j 0) ∧ Dra W wr) (fun iv _ => 5 - (intOf iv).toNat)
      case atStart => exact ⟨0, by omega, rfl, fun j q => by omega, Dra.refl _⟩
      case round =>
        obtain ⟨k, hk, rfl, hz, hD⟩ := hrel
        have HD := Lib.hid hD
        have HZ := Lib.hid hz
        by_cases hlt : k < 5
        · have c1 := (hD.cell ⟨w.heap.size + 1 + 1, k, none⟩).trans (FX.out k hlt)
          have c2 := (hD.cell ⟨w.heap.size + 1 + 1 + 1, k, none⟩).trans (FY.out k hlt)
          have l1 := ecell_in c1
          have l2 := ecell_in c2
          have ZK := Lib.hid (ZO.out k hlt hz)
          have NX : Hid (([x1, 1, x2, x3, x4] : List Int).getD k 0 = ([y1, 0, y2, y3, y4] : List Int).getD k 0 → ∀ j, j < k + 1 → ([x1, 1, x2, x3, x4] : List Int).getD j 0 = ([y1, 0, y2, y3, y4] : List Int).getD j 0) := Lib.hid (fun q j hj => by
            rcases (by omega : j < k ∨ j = k) with z | z
            · exact HZ.out j z
            · rw [z]; exact q)
          clear hz hD
          generalize ([x1, 1, x2, x3, x4] : List Int).getD k 0 = P at c1 ZK NX
          generalize ([y1, 0, y2, y3, y4] : List Int).getD k 0 = Q at c2 ZK NX
          by_cases h1 : P < Q
          · have E := Lib.hid (ZK.out.1 h1)
            clear NX ZK
            go_wp2_with fail
            go_quiet (fail)
            go_wp2
            go_ret
            exact ⟨ret_int E.out.symm, BW.out.trans ((HD.out.step _).below _)⟩
          by_cases h2 : Q < P
          · have E := Lib.hid (ZK.out.2 h2)
            clear NX ZK
            go_wp2_with fail
            go_quiet (fail)
            have HD2 := Lib.hid (HD.out.step nq)
            generalize wr.drewN nq = wy at *
            have c1 := (HD2.out.cell ⟨w.heap.size + 1 + 1, k, none⟩).trans ((HD.out.cell _).symm.trans c1)
            have c2 := (HD2.out.cell ⟨w.heap.size + 1 + 1 + 1, k, none⟩).trans ((HD.out.cell _).symm.trans c2)
            have l1 := ecell_in c1
            have l2 := ecell_in c2
            go_wp2_with fail
            go_quiet (fail)
            go_wp2
            go_ret
            exact ⟨ret_int E.out.symm, BW.out.trans ((HD2.out.step _).below _)⟩
          · have E := Lib.hid (NX.out (by omega))
            clear NX ZK
            go_wp2_with fail
            go_quiet (fail)
            have HD2 := Lib.hid (HD.out.step nq)
            generalize wr.drewN nq = wy at *
            have c1 := (HD2.out.cell ⟨w.heap.size + 1 + 1, k, none⟩).trans ((HD.out.cell _).symm.trans c1)
            have c2 := (HD2.out.cell ⟨w.heap.size + 1 + 1 + 1, k, none⟩).trans ((HD.out.cell _).symm.trans c2)
            have l1 := ecell_in c1
            have l2 := ecell_in c2
            go_wp2_with fail
            go_quiet (fail)
            go_wp2
            go_roundw
            case rel => exact ⟨k + 1, by omega, by go_num, E.out, HD2.out.step _⟩
            case measure => simp [intOf]; omega
        · have E := Lib.hid (ZE.out (fun j hj => HZ.out j (by have : j < 5 := hj; omega)))
          clear hz hD
          go_wp2
          go_ret
          exact ⟨ret_int E.out.symm, BW.out.trans (HD.out.below _)⟩
    · have EC := Lib.hid (cmR_zip (x := (x1, x2, x3, x4)) (y := (y1, y2, y3, y4)) (show cms m n = cmi 0 0 from by unfold cms; rw [if_neg (by rw [h1]; decide), if_neg (by rw [h1, h2]; decide)]; rfl))
      rw [EC.out]
      clear EC
      dsimp only
      have ZO := Lib.hid (fun k hk hz => zip_or (X := [x1, 0, x2, x3, x4]) (Y := [y1, 0, y2, y3, y4]) rfl k hk hz)
      have ZE := Lib.hid (fun hz => zip_end (X := [x1, 0, x2, x3, x4]) (Y := [y1, 0, y2, y3, y4]) rfl hz)
      generalize orL (List.zipWith cmi [x1, 0, x2, x3, x4] [y1, 0, y2, y3, y4]) = R at ZO ZE ⊢
      go_enter Tryz.func30, Tryz.ntmps30
      go_upto_region 7 with fail
      obtain ⟨W, hW⟩ : ∃ W, W = (((w.alloc (.cells #[.int .i64 x1, .string m, .int .i64 x2, .int .i64 x3, .int .i64 x4] 73)).alloc (.cells #[.int .i64 y1, .string n, .int .i64 y2, .int .i64 y3, .int .i64 y4] 73)).alloc (.cells #[.int .i64 x1, .int .i64 0, .int .i64 x2, .int .i64 x3, .int .i64 x4] 3)).alloc (.cells #[.int .i64 y1, .int .i64 0, .int .i64 y2, .int .i64 y3, .int .i64 y4] 3) := ⟨_, rfl⟩
      have F3 := fiv_two w (.cells #[.int .i64 x1, .string m, .int .i64 x2, .int .i64 x3, .int .i64 x4] 73) (.cells #[.int .i64 y1, .string n, .int .i64 y2, .int .i64 y3, .int .i64 y4] 73) x1 0 x2 x3 x4 y1 0 y2 y3 y4 3
      rw [← hW] at F3
      have FX := Lib.hid F3.1
      have FY := Lib.hid F3.2.1
      have BW := Lib.hid F3.2.2
      clear F3
      rw [← hW]
      clear hW
      go_wp2_with fail
      go_loopw [7] (fun iv wr => ∃ k : Nat, k ≤ 5 ∧ iv = .int .i64 k ∧ (∀ j, j < k → ([x1, 0, x2, x3, x4] : List Int).getD j 0 = ([y1, 0, y2, y3, y4] : List Int).getD j 0) ∧ Dra W wr) (fun iv _ => 5 - (intOf iv).toNat)
      case atStart => exact ⟨0, by omega, rfl, fun j q => by omega, Dra.refl _⟩
      case round =>
        obtain ⟨k, hk, rfl, hz, hD⟩ := hrel
        have HD := Lib.hid hD
        have HZ := Lib.hid hz
        by_cases hlt : k < 5
        · have c1 := (hD.cell ⟨w.heap.size + 1 + 1, k, none⟩).trans (FX.out k hlt)
          have c2 := (hD.cell ⟨w.heap.size + 1 + 1 + 1, k, none⟩).trans (FY.out k hlt)
          have l1 := ecell_in c1
          have l2 := ecell_in c2
          have ZK := Lib.hid (ZO.out k hlt hz)
          have NX : Hid (([x1, 0, x2, x3, x4] : List Int).getD k 0 = ([y1, 0, y2, y3, y4] : List Int).getD k 0 → ∀ j, j < k + 1 → ([x1, 0, x2, x3, x4] : List Int).getD j 0 = ([y1, 0, y2, y3, y4] : List Int).getD j 0) := Lib.hid (fun q j hj => by
            rcases (by omega : j < k ∨ j = k) with z | z
            · exact HZ.out j z
            · rw [z]; exact q)
          clear hz hD
          generalize ([x1, 0, x2, x3, x4] : List Int).getD k 0 = P at c1 ZK NX
          generalize ([y1, 0, y2, y3, y4] : List Int).getD k 0 = Q at c2 ZK NX
          by_cases h1 : P < Q
          · have E := Lib.hid (ZK.out.1 h1)
            clear NX ZK
            go_wp2_with fail
            go_quiet (fail)
            go_wp2
            go_ret
            exact ⟨ret_int E.out.symm, BW.out.trans ((HD.out.step _).below _)⟩
          by_cases h2 : Q < P
          · have E := Lib.hid (ZK.out.2 h2)
            clear NX ZK
            go_wp2_with fail
            go_quiet (fail)
            have HD2 := Lib.hid (HD.out.step nq)
            generalize wr.drewN nq = wy at *
            have c1 := (HD2.out.cell ⟨w.heap.size + 1 + 1, k, none⟩).trans ((HD.out.cell _).symm.trans c1)
            have c2 := (HD2.out.cell ⟨w.heap.size + 1 + 1 + 1, k, none⟩).trans ((HD.out.cell _).symm.trans c2)
            have l1 := ecell_in c1
            have l2 := ecell_in c2
            go_wp2_with fail
            go_quiet (fail)
            go_wp2
            go_ret
            exact ⟨ret_int E.out.symm, BW.out.trans ((HD2.out.step _).below _)⟩
          · have E := Lib.hid (NX.out (by omega))
            clear NX ZK
            go_wp2_with fail
            go_quiet (fail)
            have HD2 := Lib.hid (HD.out.step nq)
            generalize wr.drewN nq = wy at *
            have c1 := (HD2.out.cell ⟨w.heap.size + 1 + 1, k, none⟩).trans ((HD.out.cell _).symm.trans c1)
            have c2 := (HD2.out.cell ⟨w.heap.size + 1 + 1 + 1, k, none⟩).trans ((HD.out.cell _).symm.trans c2)
            have l1 := ecell_in c1
            have l2 := ecell_in c2
            go_wp2_with fail
            go_quiet (fail)
            go_wp2
            go_roundw
            case rel => exact ⟨k + 1, by omega, by go_num, E.out, HD2.out.step _⟩
            case measure => simp [intOf]; omega
        · have E := Lib.hid (ZE.out (fun j hj => HZ.out j (by have : j < 5 := hj; omega)))
          clear hz hD
          go_wp2
          go_ret
          exact ⟨ret_int E.out.symm, BW.out.trans (HD.out.below _)⟩
  · have EC := Lib.hid (cmR_zip (x := (x1, x2, x3, x4)) (y := (y1, y2, y3, y4)) (show cms m n = cmi 0 1 from if_pos h1))
    rw [EC.out]
    clear EC
    dsimp only
    have ZO := Lib.hid (fun k hk hz => zip_or (X := [x1, 0, x2, x3, x4]) (Y := [y1, 1, y2, y3, y4]) rfl k hk hz)
    have ZE := Lib.hid (fun hz => zip_end (X := [x1, 0, x2, x3, x4]) (Y := [y1, 1, y2, y3, y4]) rfl hz)
    generalize orL (List.zipWith cmi [x1, 0, x2, x3, x4] [y1, 1, y2, y3, y4]) = R at ZO ZE ⊢
    go_enter Tryz.func30, Tryz.ntmps30
    go_upto_region 7 with fail
    obtain ⟨W, hW⟩ : ∃ W, W = (((w.alloc (.cells #[.int .i64 x1, .string m, .int .i64 x2, .int .i64 x3, .int .i64 x4] 73)).alloc (.cells #[.int .i64 y1, .string n, .int .i64 y2, .int .i64 y3, .int .i64 y4] 73)).alloc (.cells #[.int .i64 x1, .int .i64 0, .int .i64 x2, .int .i64 x3, .int .i64 x4] 3)).alloc (.cells #[.int .i64 y1, .int .i64 1, .int .i64 y2, .int .i64 y3, .int .i64 y4] 3) := ⟨_, rfl⟩
    have F3 := fiv_two w (.cells #[.int .i64 x1, .string m, .int .i64 x2, .int .i64 x3, .int .i64 x4] 73) (.cells #[.int .i64 y1, .string n, .int .i64 y2, .int .i64 y3, .int .i64 y4] 73) x1 0 x2 x3 x4 y1 1 y2 y3 y4 3
    rw [← hW] at F3
    have FX := Lib.hid F3.1
    have FY := Lib.hid F3.2.1
    have BW := Lib.hid F3.2.2
    clear F3
    rw [← hW]
    clear hW
    go_wp2_with fail
    go_loopw [7] (fun iv wr => ∃ k : Nat, k ≤ 5 ∧ iv = .int .i64 k ∧ (∀ j, j < k → ([x1, 0, x2, x3, x4] : List Int).getD j 0 = ([y1, 1, y2, y3, y4] : List Int).getD j 0) ∧ Dra W wr) (fun iv _ => 5 - (intOf iv).toNat)
    case atStart => exact ⟨0, by omega, rfl, fun j q => by omega, Dra.refl _⟩
    case round =>
      obtain ⟨k, hk, rfl, hz, hD⟩ := hrel
      have HD := Lib.hid hD
      have HZ := Lib.hid hz
      by_cases hlt : k < 5
      · have c1 := (hD.cell ⟨w.heap.size + 1 + 1, k, none⟩).trans (FX.out k hlt)
        have c2 := (hD.cell ⟨w.heap.size + 1 + 1 + 1, k, none⟩).trans (FY.out k hlt)
        have l1 := ecell_in c1
        have l2 := ecell_in c2
        have ZK := Lib.hid (ZO.out k hlt hz)
        have NX : Hid (([x1, 0, x2, x3, x4] : List Int).getD k 0 = ([y1, 1, y2, y3, y4] : List Int).getD k 0 → ∀ j, j < k + 1 → ([x1, 0, x2, x3, x4] : List Int).getD j 0 = ([y1, 1, y2, y3, y4] : List Int).getD j 0) := Lib.hid (fun q j hj => by
          rcases (by omega : j < k ∨ j = k) with z | z
          · exact HZ.out j z
          · rw [z]; exact q)
        clear hz hD
        generalize ([x1, 0, x2, x3, x4] : List Int).getD k 0 = P at c1 ZK NX
        generalize ([y1, 1, y2, y3, y4] : List Int).getD k 0 = Q at c2 ZK NX
        by_cases h1 : P < Q
        · have E := Lib.hid (ZK.out.1 h1)
          clear NX ZK
          go_wp2_with fail
          go_quiet (fail)
          go_wp2
          go_ret
          exact ⟨ret_int E.out.symm, BW.out.trans ((HD.out.step _).below _)⟩
        by_cases h2 : Q < P
        · have E := Lib.hid (ZK.out.2 h2)
          clear NX ZK
          go_wp2_with fail
          go_quiet (fail)
          have HD2 := Lib.hid (HD.out.step nq)
          generalize wr.drewN nq = wy at *
          have c1 := (HD2.out.cell ⟨w.heap.size + 1 + 1, k, none⟩).trans ((HD.out.cell _).symm.trans c1)
          have c2 := (HD2.out.cell ⟨w.heap.size + 1 + 1 + 1, k, none⟩).trans ((HD.out.cell _).symm.trans c2)
          have l1 := ecell_in c1
          have l2 := ecell_in c2
          go_wp2_with fail
          go_quiet (fail)
          go_wp2
          go_ret
          exact ⟨ret_int E.out.symm, BW.out.trans ((HD2.out.step _).below _)⟩
        · have E := Lib.hid (NX.out (by omega))
          clear NX ZK
          go_wp2_with fail
          go_quiet (fail)
          have HD2 := Lib.hid (HD.out.step nq)
          generalize wr.drewN nq = wy at *
          have c1 := (HD2.out.cell ⟨w.heap.size + 1 + 1, k, none⟩).trans ((HD.out.cell _).symm.trans c1)
          have c2 := (HD2.out.cell ⟨w.heap.size + 1 + 1 + 1, k, none⟩).trans ((HD.out.cell _).symm.trans c2)
          have l1 := ecell_in c1
          have l2 := ecell_in c2
          go_wp2_with fail
          go_quiet (fail)
          go_wp2
          go_roundw
          case rel => exact ⟨k + 1, by omega, by go_num, E.out, HD2.out.step _⟩
          case measure => simp [intOf]; omega
      · have E := Lib.hid (ZE.out (fun j hj => HZ.out j (by have : j < 5 := hj; omega)))
        clear hz hD
        go_wp2
        go_ret
        exact ⟨ret_int E.out.symm, BW.out.trans (HD.out.below _)⟩
end Go.Proofs.YtoncfgfjdlgfcaaGreatDoor
namespace Go.Proofs.YtoncfgfjdlgfcaaGreatDoor
open Go.RowKit Cal Txt

theorem wnm5 {n : Nat} {w w' : World} (_ : Below n w w') : ∃ x, x = w' := ⟨_, rfl⟩
theorem cmR_eq (nm : ByteArray) (x y : Rg) : cmR nm nm x y = 0 ↔ x = y := by
  obtain ⟨x1, x2, x3, x4⟩ := x
  obtain ⟨y1, y2, y3, y4⟩ := y
  unfold cmR
  simp only [orL, cms_self, Prod.mk.injEq]
  constructor
  · intro h
    split at h
    · rename_i q1
      simp only [if_true] at h
      split at h
      · rename_i q2
        split at h
        · rename_i q3
          split at h
          · rename_i q4
            exact ⟨cmi_z.1 q1, cmi_z.1 q2, cmi_z.1 q3, cmi_z.1 q4⟩
          · rename_i q4; exact absurd h q4
        · rename_i q3; exact absurd h q3
      · rename_i q2; exact absurd h q2
    · rename_i q1; exact absurd h q1
  · rintro ⟨rfl, rfl, rfl, rfl⟩
    simp [cmi_z.2]
/-- A ring is above another one, in the words of the order. -/
theorem cmR_pos (nm : ByteArray) (x y : Rg) : 0 < cmR nm nm x y ↔ ltR y x := by
  have h1 := cmR_n nm x y
  have h2 := cmR_eq nm x y
  constructor
  · intro h
    refine ltR_tot (fun q => ?_) (fun q => ?_)
    · have := h1.2 q; omega
    · have := h2.2 q.symm; omega
  · intro h
    rcases (by omega : cmR nm nm x y < 0 ∨ cmR nm nm x y = 0 ∨ 0 < cmR nm nm x y) with q | q | q
    · have := h1.1 q
      unfold ltR at *; omega
    · have := h2.1 q
      subst this
      unfold ltR at h; omega
    · exact q
theorem ltR_trans {x y z : Rg} (p : ltR x y) (q : ltR y z) : ltR x z := by unfold ltR at *; omega
/-- A ring is put in. -/
theorem insR_rise {O : List Rg} {y : Rg} {k : Nat} (hO : O.Pairwise ltR) (hk : k ≤ O.length) (h1 : ∀ j, k ≤ j → j < O.length → ltR y (O.getD j (0, 0, 0, 0))) (h2 : 0 < k → ltR (O.getD (k - 1) (0, 0, 0, 0)) y) : (O.take k ++ y :: O.drop k).Pairwise ltR := by
  have lo : ∀ x ∈ O.take k, ltR x y := fun x hx => by
    obtain ⟨i, hi, rfl⟩ := List.getElem_of_mem hx
    rw [List.length_take] at hi
    rw [List.getElem_take]
    have hk1 := h2 (by omega)
    rw [List.getD_eq_getElem?_getD, List.getElem?_eq_getElem (by omega)] at hk1
    rcases (by omega : i = k - 1 ∨ i < k - 1) with z | z
    · subst z; exact hk1
    · exact ltR_trans (List.pairwise_iff_getElem.1 hO i (k - 1) (by omega) (by omega) z) hk1
  have up : ∀ x ∈ O.drop k, ltR y x := fun x hx => by
    obtain ⟨i, hi, rfl⟩ := List.getElem_of_mem hx
    rw [List.length_drop] at hi
    rw [List.getElem_drop]
    have := h1 (k + i) (by omega) (by omega)
    rwa [List.getD_eq_getElem?_getD, List.getElem?_eq_getElem (by omega)] at this
  rw [List.pairwise_append, List.pairwise_cons]
  refine ⟨hO.sublist (List.take_sublist k O), ⟨up, hO.sublist (List.drop_sublist k O)⟩, fun x hx z hz => ?_⟩
  rcases List.mem_cons.1 hz with rfl | hz
  · exact lo x hx
  · exact ltR_trans (lo x hx) (up z hz)
theorem insR_mem {O : List Rg} {y z : Rg} {k : Nat} : z ∈ O.take k ++ y :: O.drop k ↔ z ∈ O ∨ z = y := by
  rw [List.mem_append, List.mem_cons]
  constructor
  · rintro (q | q | q)
    · exact Or.inl (List.mem_of_mem_take q)
    · exact Or.inr q
    · exact Or.inl (List.mem_of_mem_drop q)
  · rintro (q | q)
    · rw [← List.take_append_drop k O, List.mem_append] at q
      rcases q with q | q
      · exact Or.inl q
      · exact Or.inr (Or.inr q)
    · exact Or.inr (Or.inl q)
/-- What comes of it: a list in order that holds both. -/
def Put (O : List Rg) (r : Rg) (P : List Rg) : Prop := P.Pairwise ltR ∧ (∀ z, z ∈ P ↔ z ∈ O ∨ z = r) ∧ P.length ≤ O.length + 1
/-- A list of rings that can be cut. -/
def Rw (nm : ByteArray) (w : World) (v : Value) (O : List Rg) : Prop := RowK (encR nm) w v O ∧ ((v = .slice none 0 0 ∧ O = []) ∨ ∃ b off cap, v = .slice (some ⟨b, off, none⟩) O.length cap ∧ O.length ≤ cap)
theorem Rw.on {nm : ByteArray} {w w' : World} {v : Value} {O : List Rg} (h : Rw nm w v O) (q : Below w.heap.size w w') : Rw nm w' v O := ⟨h.1.on q, h.2⟩
theorem Rw.nil (nm : ByteArray) (w : World) : Rw nm w (.slice none 0 0) [] := ⟨RowK.nil _ _, Or.inl ⟨rfl, rfl⟩⟩
theorem own_rw {nm : ByteArray} {w : World} {n0 n : Nat} {v : Value} {O : List Rg} (h : w.ownsRow n0 73 5 v n (O.flatMap (encR nm))) : Rw nm w v O := by
  have hk := own_rowK (enc := encR nm) (k := 5) (fun _ => rfl) (by decide) h
  obtain ⟨a, cap, e, _⟩ := id hk
  refine ⟨hk, ?_⟩
  rcases h.2 with ⟨hv, h0⟩ | ⟨g, cap', cur, hv, _, _, hc, _⟩
  · left
    refine ⟨hv, List.eq_nil_of_length_eq_zero ?_⟩
    rw [hv] at e; simp at e; omega
  · right
    have : O.length = n := by rw [hv] at e; simp at e; omega
    exact ⟨g, 0, cap', by rw [hv, this], by omega⟩
def AddA (nm : ByteArray) (O : List Rg) (r : Rg) (w : World) (x : Ending) (w' : World) : Prop := ∃ u P, x = .returned u ∧ Rw nm w' u P ∧ Put O r P ∧ Below w.heap.size w w'
theorem RowK.take {α : Type} {enc : α → List Value} {w : World} {a : Option Addr} {cap : Nat} {l : List α} (h : RowK enc w (.slice a l.length cap) l) (k : Nat) (hk : k ≤ l.length) : RowK enc w (.slice a k cap) (l.take k) := by
  have hl : (l.take k).length = k := by rw [List.length_take]; omega
  obtain ⟨a', cap', e, hc⟩ := h
  obtain ⟨rfl, rfl⟩ : a = a' ∧ cap = cap' := by simpa using e
  refine ⟨a, cap, by rw [hl], ?_⟩
  rcases hc with hc | ⟨b, off, ea, hc⟩
  · left; rw [hc]; simp
  · right
    refine ⟨b, off, ea, fun j u hu => hc j u ?_⟩
    have e2 : l.flatMap enc = (l.take k).flatMap enc ++ (l.drop k).flatMap enc := by rw [← List.flatMap_append, List.take_append_drop]
    rw [e2, List.getElem?_append_left (List.getElem?_eq_some_iff.1 hu).1]
    exact hu
theorem RowK.drop {α : Type} {enc : α → List Value} {c : Nat} (hc5 : ∀ x, (enc x).length = c) {w : World} {b off cap : Nat} {l : List α} (h : RowK enc w (.slice (some ⟨b, off, none⟩) l.length cap) l) (k : Nat) (hk : k ≤ l.length) (cap2 : Nat) : RowK enc w (.slice (some ⟨b, off + k * c, none⟩) (l.length - k) cap2) (l.drop k) := by
  have hl : (l.drop k).length = l.length - k := List.length_drop
  obtain ⟨a', cap', e, hc⟩ := h
  refine ⟨_, cap2, by rw [hl], ?_⟩
  rcases hc with hc | ⟨b', off', ea, hc⟩
  · left; rw [hc]; simp
  · right
    obtain ⟨⟨rfl, rfl⟩, rfl⟩ : (b = b' ∧ off = off') ∧ cap = cap' := by simpa [ea] using e
    refine ⟨b, off + k * c, rfl, fun j u hu => ?_⟩
    have e2 : l.flatMap enc = (l.take k).flatMap enc ++ (l.drop k).flatMap enc := by rw [← List.flatMap_append, List.take_append_drop]
    have l2 : ((l.take k).flatMap enc).length = k * c := by rw [flat_len enc c hc5, List.length_take]; congr 1; omega
    have := hc (k * c + j) u (by rw [e2, List.getElem?_append_right (by omega), l2, Nat.add_sub_cancel_left]; exact hu)
    rwa [← Nat.add_assoc] at this
theorem rowK_one (nm : ByteArray) (w : World) (x : Rg) (t : TypeId) : RowK (encR nm) (w.alloc (.cells #[.int .i64 x.1, .string nm, .int .i64 x.2.1, .int .i64 x.2.2.1, .int .i64 x.2.2.2] t)) (.slice (some ⟨w.heap.size, 0, none⟩) 1 1) [x] := by
  refine ⟨_, 1, rfl, Or.inr ⟨_, 0, rfl, fun j u hu => ?_⟩⟩
  have hu' : (encR nm x)[j]? = some u := by simpa using hu
  have : j < 5 := (List.getElem?_eq_some_iff.1 hu').1
  have : j = 0 ∨ j = 1 ∨ j = 2 ∨ j = 3 ∨ j = 4 := by omega
  rw [Nat.zero_add]
  rcases this with rfl | rfl | rfl | rfl | rfl <;> (simp [encR] at hu'; subst hu'; simp)
set_option maxRecDepth 100000 in
set_option maxHeartbeats 8000000 in
theorem refAdd_any (nm : ByteArray) (O : List Rg) (r : Rg) (v : Value) (w : World) (hr : Rw nm w v O) (hO : O.Pairwise ltR) (hl : O.length ≤ 1000000) :
    Calls Tryz.prog 63 #[v, .agg #[.int .i64 r.1, .string nm, .int .i64 r.2.1, .int .i64 r.2.2.1, .int .i64 r.2.2.2]] w (AddA nm O r w) := by
  have hv := hr.1
  have HV := Lib.hid hv
  have HO := Lib.hid hO
  obtain ⟨aa, ca, rfl, xa⟩ := rowK_at hv
  have HRW := Lib.hid hr
  have b0 : Below w.heap.size w (w.alloc (.cells #[.int .i64 r.1, .string nm, .int .i64 r.2.1, .int .i64 r.2.2.1, .int .i64 r.2.2.2] 73)) := (Below.refl _ _).alloc (Nat.le_refl _) _
  have HB := Lib.hid b0
  have HR := Lib.hid (RBx.new nm w r 73)
  obtain ⟨r1, r2, r3, r4⟩ := r
  dsimp only at HR HB ⊢
  clear hr hv hO xa b0
  go_enter Tryz.func63, Tryz.ntmps63
  go_upto_block 0 with fail
  generalize w.alloc (.cells #[.int .i64 r1, .string nm, .int .i64 r2, .int .i64 r3, .int .i64 r4] 73) = W0 at HB HR ⊢
  go_cut [5] from 7 to 49 (fun s5 wx => ∃ k : Nat, s5 = .int .i64 k ∧ k ≤ O.length ∧ (∀ j, k ≤ j → j < O.length → ltR (r1, r2, r3, r4) (O.getD j (0, 0, 0, 0))) ∧ (0 < k → ¬ ltR (r1, r2, r3, r4) (O.getD (k - 1) (0, 0, 0, 0))) ∧ Below W0.heap.size W0 wx)
  case first =>
    go_wp2_with fail
    go_loopw [5] (fun kv wr => ∃ k : Nat, kv = .int .i64 k ∧ k ≤ O.length ∧ (∀ j, k ≤ j → j < O.length → ltR (r1, r2, r3, r4) (O.getD j (0, 0, 0, 0))) ∧ Below W0.heap.size W0 wr) (fun kv _ => (intOf kv).toNat)
    case atStart => exact ⟨O.length, rfl, Nat.le_refl _, fun j h1 h2 => by omega, Below.refl _ _⟩
    case round =>
      obtain ⟨k, rfl, hk, hgt, hD⟩ := hrel
      have HD := Lib.hid hD
      have GT := Lib.hid hgt
      have HK := Lib.hid hk
      obtain ⟨t0, t1, t2, t3, t4⟩ := HR.out.on hD
      dsimp only at t0 t1 t2 t3 t4
      rcases Nat.eq_zero_or_pos k with h0 | h0
      · have H2 : Hid (0 < k → ¬ ltR (r1, r2, r3, r4) (O.getD (k - 1) (0, 0, 0, 0))) := Lib.hid (fun q => by omega)
        have d7 : decide ((k : Int) > 0) = false := decide_eq_false (by omega)
        have d8 : decide ((0 : Int) < (k : Int)) = false := decide_eq_false (by omega)
        have d9 : decide (0 < k) = false := decide_eq_false (by omega)
        clear h0 hD hgt
        have tl := ecell_in t0
        go_wp2_with fail
        go_quiet (fail)
        go_wp2
        go_meet
        case rel => exact ⟨k, rfl, HK.out, GT.out, H2.out, below_drewN HD.out _⟩
      · obtain ⟨j, hj⟩ : ∃ j, k = j + 1 := ⟨k - 1, by omega⟩
        obtain ⟨a2, c2, e2, hc⟩ := rowK_at (HV.out.on (HB.out.trans (hD.mono HB.out.size)))
        obtain ⟨rfl, rfl⟩ : aa = a2 ∧ ca = c2 := by simpa using e2
        rcases hc with hc | ⟨b, off, rfl, hc⟩
        · rw [hc] at hk; simp at hk; omega
        have cP := hc j (by omega)
        have KO := Lib.hid (fun W (_ : Below wr.heap.size wr W) => refOrder_any nm nm (O.getD j (0, 0, 0, 0)) (r1, r2, r3, r4) W)
        have CP := Lib.hid (cmR_pos nm (O.getD j (0, 0, 0, 0)) (r1, r2, r3, r4))
        have GN : Hid (ltR (r1, r2, r3, r4) (O.getD j (0, 0, 0, 0)) → ∀ m, j ≤ m → m < O.length → ltR (r1, r2, r3, r4) (O.getD m (0, 0, 0, 0))) := Lib.hid (fun z m h1 h2 => by
          rcases (by omega : m = j ∨ k ≤ m) with q | q
          · rw [q]; exact z
          · exact GT.out m q h2)
        have L2 : Hid (¬ ltR (r1, r2, r3, r4) (O.getD j (0, 0, 0, 0)) → 0 < k → ¬ ltR (r1, r2, r3, r4) (O.getD (k - 1) (0, 0, 0, 0))) := Lib.hid (fun z _ => by
          rw [show k - 1 = j by omega]; exact z)
        generalize cmR nm nm (O.getD j (0, 0, 0, 0)) (r1, r2, r3, r4) = CV at KO CP
        generalize O.getD j (0, 0, 0, 0) = P at cP KO CP GN L2
        obtain ⟨P1, P2, P3, P4⟩ := P
        obtain ⟨p0, p1, p2, p3, p4⟩ := cP
        dsimp only at p0 p1 p2 p3 p4 KO
        have n0 := cell_regrown t0
        have n1 := cell_regrown t1
        have n2 := cell_regrown t2
        have n3 := cell_regrown t3
        have n4 := cell_regrown t4
        have n7 := cell_regrown p0
        have n8 := cell_regrown p1
        have n9 := cell_regrown p2
        have n10 := cell_regrown p3
        have n11 := cell_regrown p4
        have q1 : (0 : Int) ≤ (k : Int) - 1 := by omega
        have q2 : (k : Int) - 1 < (O.length : Int) := by omega
        have q3 : ((k : Int) - 1).toNat = j := by omega
        have w1 : IntKind.i64.wrap ((k : Int) - 1) = (k : Int) - 1 := by rw [IntKind.wrap_i64]; omega
        have w2 : wrap64 ((k : Int) - 1) = (k : Int) - 1 := by unfold wrap64; omega
        have d7 : decide ((k : Int) > 0) = true := decide_eq_true (by omega)
        have d8 : decide ((0 : Int) < (k : Int)) = true := decide_eq_true (by omega)
        have d9 : decide (0 < k) = true := decide_eq_true h0
        have HJ := Lib.hid hj
        clear h0 hc e2 hj hD hgt t0 t1 t2 t3 t4 p0 p1 p2 p3 p4
        go_wp2_with fail
        by_cases hcv : 0 < CV
        · have G := Lib.hid (GN.out (CP.out.1 hcv))
          have d10 : decide (CV > 0) = true := decide_eq_true hcv
          have d11 : decide (0 < CV) = true := decide_eq_true hcv
          clear GN L2 CP hcv
          refine wp_region_quiet_below (by kernel_rfl) (by kernel_rfl) ?_
          repeat (go_big_quiet_step (first | (go_at_call 30; exact Calls.regrown_of (KO.out _ (below_regrown wr _ _)))))
          refine wpQuiet_nil ?_
          intro _ hw'
          obtain ⟨⟨dq, osq⟩, hw''⟩ := hw'
          subst hw''
          have hb5 := Lib.hid (HD.out.trans ((below_regrown wr dq osq).mono HD.out.size))
          clear n0 n1 n2 n3 n4 n7 n8 n9 n10 n11 KO
          go_wp2
          go_roundw
          case rel => exact ⟨j, by have := HJ.out; first | go_num | (congr 1; omega), by have := HJ.out; have := HK.out; omega, G.out, hb5.out⟩
          case measure => simp [intOf]; omega
        · have H2 := Lib.hid (L2.out (fun z => hcv (CP.out.2 z)))
          have d10 : decide (CV > 0) = false := decide_eq_false hcv
          have d11 : decide (0 < CV) = false := decide_eq_false hcv
          clear GN L2 CP hcv
          refine wp_region_quiet_below (by kernel_rfl) (by kernel_rfl) ?_
          repeat (go_big_quiet_step (first | (go_at_call 30; exact Calls.regrown_of (KO.out _ (below_regrown wr _ _)))))
          refine wpQuiet_nil ?_
          intro _ hw'
          obtain ⟨⟨dq, osq⟩, hw''⟩ := hw'
          subst hw''
          have hb5 := Lib.hid (HD.out.trans ((below_regrown wr dq osq).mono HD.out.size))
          clear n0 n1 n2 n3 n4 n7 n8 n9 n10 n11 KO
          go_wp2
          go_meet
          case rel => exact ⟨k, rfl, HK.out, GT.out, H2.out, hb5.out⟩
  case rest =>
  obtain ⟨k, rfl, hk, hgt, hlo, hD⟩ := hcut
  obtain ⟨W1, hW1⟩ := wnm5 hD
  subst hW1
  have HD := Lib.hid hD
  have GT := Lib.hid hgt
  have LO := Lib.hid hlo
  have HK := Lib.hid hk
  clear hgt hlo
  go_upto_region 4 with fail
  go_cut [34] from 7 to 49 (fun sc wx => ∃ eq : Bool, sc = .bool eq ∧ (eq = true → (r1, r2, r3, r4) ∈ O) ∧ (eq = false → 0 < k → ltR (O.getD (k - 1) (0, 0, 0, 0)) (r1, r2, r3, r4)) ∧ Below W1.heap.size W1 wx)
  case first =>
    obtain ⟨t0, t1, t2, t3, t4⟩ := HR.out.on hD
    dsimp only at t0 t1 t2 t3 t4
    rcases Nat.eq_zero_or_pos k with h0 | h0
    · have H2 : Hid (0 < k → ltR (O.getD (k - 1) (0, 0, 0, 0)) (r1, r2, r3, r4)) := Lib.hid (fun q => by omega)
      have d7 : decide ((k : Int) > 0) = false := decide_eq_false (by omega)
      have d8 : decide ((0 : Int) < (k : Int)) = false := decide_eq_false (by omega)
      have d9 : decide (0 < k) = false := decide_eq_false (by omega)
      clear h0 hD
      have tl := ecell_in t0
      go_quiet (fail)
      go_wp2
      go_meet
      case rel => exact ⟨false, rfl, fun q => (by cases q), fun _ => H2.out, below_drewN (Below.refl _ _) _⟩
    · obtain ⟨j, hj⟩ : ∃ j, k = j + 1 := ⟨k - 1, by omega⟩
      obtain ⟨a2, c2, e2, hc⟩ := rowK_at (HV.out.on (HB.out.trans (hD.mono HB.out.size)))
      obtain ⟨rfl, rfl⟩ : aa = a2 ∧ ca = c2 := by simpa using e2
      rcases hc with hc | ⟨b, off, rfl, hc⟩
      · rw [hc] at hk; simp at hk; omega
      have cP := hc j (by omega)
      have PM : O.getD j (0, 0, 0, 0) ∈ O := by rw [List.getD_eq_getElem?_getD, List.getElem?_eq_getElem (by omega)]; exact List.getElem_mem (by omega)
      have KO := Lib.hid (fun W (_ : Below W1.heap.size W1 W) => refOrder_any nm nm (O.getD j (0, 0, 0, 0)) (r1, r2, r3, r4) W)
      have CE := cmR_eq nm (O.getD j (0, 0, 0, 0)) (r1, r2, r3, r4)
      have LJ := LO.out h0
      rw [show k - 1 = j by omega] at LJ
      have E1 : Hid ((cmR nm nm (O.getD j (0, 0, 0, 0)) (r1, r2, r3, r4) == 0) = true → (r1, r2, r3, r4) ∈ O) := Lib.hid (fun q => by rw [← CE.1 (by simpa using q)]; exact PM)
      have E2 : Hid ((cmR nm nm (O.getD j (0, 0, 0, 0)) (r1, r2, r3, r4) == 0) = false → 0 < k → ltR (O.getD (k - 1) (0, 0, 0, 0)) (r1, r2, r3, r4)) := Lib.hid (fun q _ => by
        rw [show k - 1 = j by omega]
        exact ltR_tot LJ (fun z => by have := CE.2 z; rw [this] at q; exact absurd q (by decide)))
      clear CE LJ PM
      generalize cmR nm nm (O.getD j (0, 0, 0, 0)) (r1, r2, r3, r4) = CV at KO E1 E2
      generalize O.getD j (0, 0, 0, 0) = P at cP KO
      obtain ⟨P1, P2, P3, P4⟩ := P
      obtain ⟨p0, p1, p2, p3, p4⟩ := cP
      dsimp only at p0 p1 p2 p3 p4 KO
      have n0 := cell_regrown t0
      have n1 := cell_regrown t1
      have n2 := cell_regrown t2
      have n3 := cell_regrown t3
      have n4 := cell_regrown t4
      have n7 := cell_regrown p0
      have n8 := cell_regrown p1
      have n9 := cell_regrown p2
      have n10 := cell_regrown p3
      have n11 := cell_regrown p4
      have q1 : (0 : Int) ≤ (k : Int) - 1 := by omega
      have q2 : (k : Int) - 1 < (O.length : Int) := by omega
      have q3 : ((k : Int) - 1).toNat = j := by omega
      have w1 : IntKind.i64.wrap ((k : Int) - 1) = (k : Int) - 1 := by rw [IntKind.wrap_i64]; omega
      have w2 : wrap64 ((k : Int) - 1) = (k : Int) - 1 := by unfold wrap64; omega
      have d7 : decide ((k : Int) > 0) = true := decide_eq_true (by omega)
      have d8 : decide ((0 : Int) < (k : Int)) = true := decide_eq_true (by omega)
      have d9 : decide (0 < k) = true := decide_eq_true h0
      clear h0 hc e2 hj hD t0 t1 t2 t3 t4 p0 p1 p2 p3 p4
      refine wp_region_quiet_below (by kernel_rfl) (by kernel_rfl) ?_
      repeat (go_big_quiet_step (first | (go_at_call 30; exact Calls.regrown_of (KO.out _ (below_regrown W1 _ _)))))
      refine wpQuiet_nil ?_
      intro _ hw'
      obtain ⟨⟨dq, osq⟩, hw''⟩ := hw'
      subst hw''
      have hb5 := Lib.hid (below_regrown W1 dq osq)
      clear n0 n1 n2 n3 n4 n7 n8 n9 n10 n11 KO
      go_wp2
      go_meet
      case rel => exact ⟨CV == 0, rfl, E1.out, E2.out, hb5.out⟩
  case rest =>
  obtain ⟨eq, rfl, heq, hne, hb⟩ := hcut
  obtain ⟨W2, hW2⟩ := wnm5 hb
  subst hW2
  have B1 := HB.out.trans (hD.mono HB.out.size)
  have B2 := Lib.hid (B1.trans (hb.mono B1.size))
  have HR2 := Lib.hid ((HR.out.on hD).on hb)
  have HV2 := Lib.hid (HV.out.on B2.out)
  clear hD hb HD HR HB B1 HV
  rcases eq with _ | _
  · have PU := Lib.hid (show Put O (r1, r2, r3, r4) (O.take k ++ (r1, r2, r3, r4) :: O.drop k) from ⟨insR_rise HO.out hk GT.out (hne rfl), fun z => insR_mem, by simp; omega⟩)
    clear heq hne GT LO
    rcases HRW.out.2 with ⟨e9, hO9⟩ | ⟨b, off, cap9, e9, oc⟩
    · obtain ⟨rfl, _, rfl⟩ : aa = none ∧ O.length = 0 ∧ ca = 0 := by simpa using e9
      subst hO9
      obtain rfl : k = 0 := by simpa using hk
      have PN : Hid (Put [] (r1, r2, r3, r4) ([] ++ ([(r1, r2, r3, r4)] ++ []))) := Lib.hid (by simpa using PU.out)
      clear PU HK
      obtain ⟨v3, w3, ap3, o3, b3⟩ := app5_any (nm := nm) (l := []) (mo := []) (World.ownsRow_nil W2 W2.heap.size 73 5) (RowK.nil _ _) (Nat.le_refl _) (by simp <;> omega)
      rw [List.nil_append] at o3
      have AP3 := Lib.hid ap3
      have B3 := Lib.hid (B2.out.trans (b3.mono B2.out.size))
      have HR3 := Lib.hid (HR2.out.on b3)
      have O3 := Lib.hid o3
      have S3 := b3.size
      have SB3 := Lib.hid b3
      clear ap3 b3 o3
      have b4 : Below w3.heap.size w3 (w3.alloc (.cells #[.int .i64 r1, .string nm, .int .i64 r2, .int .i64 r3, .int .i64 r4] 73)) := (Below.refl _ _).alloc (Nat.le_refl _) _
      obtain ⟨v5, w5, ap5, o5, b5⟩ := app5_any (nm := nm) (mo := [(r1, r2, r3, r4)]) (ow_below O3.out b4) (rowK_one nm w3 (r1, r2, r3, r4) 73) (Nat.le_trans S3 b4.size) (by simp <;> omega)
      have AP5 := Lib.hid ap5
      have b45 : Below W2.heap.size w3 w5 := (b4.mono S3).trans b5
      have B5 := Lib.hid (B3.out.trans (b45.mono B2.out.size))
      have HV5 := Lib.hid (HV2.out.on (SB3.out.trans b45))
      have O5 := Lib.hid o5
      have S5 := Nat.le_trans S3 b45.size
      obtain ⟨t0, t1, t2, t3, t4⟩ := HR3.out
      dsimp only at t0 t1 t2 t3 t4
      have tl := ecell_in t0
      obtain ⟨v7, w7, ap7, o7, b7⟩ := app5_any (nm := nm) (mo := []) O5.out (RowK.nil _ _) S5 (by simp <;> omega)
      have AP7 := Lib.hid ap7
      have B7 := Lib.hid (B5.out.trans (b7.mono B2.out.size))
      have O7 := Lib.hid (own_rw o7)
      rw [List.append_assoc] at O7
      clear ap5 b45 b5 o5 b4 ap7 o7 b7
      go_upto_region 8 with (at_builtin; refine wpList_app rfl _ _ 75 rfl _ _ _ _ rfl rfl AP3.out ?_)
      go_upto_region 9 with (at_builtin; refine wpList_app rfl _ _ 75 rfl _ _ _ _ rfl rfl AP5.out ?_)
      clear t0 t1 t2 t3 t4 tl AP3 AP5
      go_wp2_with (at_builtin; refine wpList_app rfl _ _ 75 rfl _ _ _ _ rfl rfl AP7.out ?_)
      go_ret
      exact ⟨_, _, rfl, O7.out, PN.out, B7.out⟩
    · obtain ⟨rfl, rfl⟩ : aa = some ⟨b, off, none⟩ ∧ ca = cap9 := by simpa using e9
      clear e9
      by_cases hck : ca = k
      · subst hck
        have hz : O.length - ca = 0 := by omega
        have PA : Hid (Put O (r1, r2, r3, r4) (O.take ca ++ ([(r1, r2, r3, r4)] ++ []))) := Lib.hid (by have := PU.out; rw [List.drop_of_length_le (by omega)] at this; exact this)
        clear PU HK
        obtain ⟨v3, w3, ap3, o3, b3⟩ := app5_any (nm := nm) (l := []) (mo := O.take ca) (World.ownsRow_nil W2 W2.heap.size 73 5) (HV2.out.take ca hk) (Nat.le_refl _) (by simp <;> omega)
        rw [List.nil_append] at o3
        have AP3 := Lib.hid ap3
        have B3 := Lib.hid (B2.out.trans (b3.mono B2.out.size))
        have HR3 := Lib.hid (HR2.out.on b3)
        have O3 := Lib.hid o3
        have S3 := b3.size
        have SB3 := Lib.hid b3
        clear ap3 b3 o3
        have b4 : Below w3.heap.size w3 (w3.alloc (.cells #[.int .i64 r1, .string nm, .int .i64 r2, .int .i64 r3, .int .i64 r4] 73)) := (Below.refl _ _).alloc (Nat.le_refl _) _
        obtain ⟨v5, w5, ap5, o5, b5⟩ := app5_any (nm := nm) (mo := [(r1, r2, r3, r4)]) (ow_below O3.out b4) (rowK_one nm w3 (r1, r2, r3, r4) 73) (Nat.le_trans S3 b4.size) (by simp <;> omega)
        have AP5 := Lib.hid ap5
        have b45 : Below W2.heap.size w3 w5 := (b4.mono S3).trans b5
        have B5 := Lib.hid (B3.out.trans (b45.mono B2.out.size))
        have HV5 := Lib.hid (HV2.out.on (SB3.out.trans b45))
        have O5 := Lib.hid o5
        have S5 := Nat.le_trans S3 b45.size
        obtain ⟨t0, t1, t2, t3, t4⟩ := HR3.out
        dsimp only at t0 t1 t2 t3 t4
        have tl := ecell_in t0
        obtain ⟨v7, w7, ap7, o7, b7⟩ := app5_any (nm := nm) (mo := []) O5.out (⟨some ⟨b, off, none⟩, 0, rfl, Or.inl rfl⟩) S5 (by simp <;> omega)
        have AP7 := Lib.hid ap7
        have B7 := Lib.hid (B5.out.trans (b7.mono B2.out.size))
        have O7 := Lib.hid (own_rw o7)
        rw [List.append_assoc] at O7
        clear ap5 b45 b5 o5 b4 ap7 o7 b7
        go_upto_region 8 with (at_builtin; refine wpList_app rfl _ _ 75 rfl _ _ _ _ rfl rfl AP3.out ?_)
        go_upto_region 9 with (at_builtin; refine wpList_app rfl _ _ 75 rfl _ _ _ _ rfl rfl AP5.out ?_)
        clear t0 t1 t2 t3 t4 tl AP3 AP5
        go_wp2_with (at_builtin; refine wpList_app rfl _ _ 75 rfl _ _ _ _ rfl rfl AP7.out ?_)
        go_ret
        exact ⟨_, _, rfl, O7.out, PA.out, B7.out⟩
      · have kc : k ≤ ca := by omega
        obtain ⟨v3, w3, ap3, o3, b3⟩ := app5_any (nm := nm) (l := []) (mo := O.take k) (World.ownsRow_nil W2 W2.heap.size 73 5) (HV2.out.take k hk) (Nat.le_refl _) (by simp <;> omega)
        rw [List.nil_append] at o3
        have AP3 := Lib.hid ap3
        have B3 := Lib.hid (B2.out.trans (b3.mono B2.out.size))
        have HR3 := Lib.hid (HR2.out.on b3)
        have O3 := Lib.hid o3
        have S3 := b3.size
        have SB3 := Lib.hid b3
        clear ap3 b3 o3
        have b4 : Below w3.heap.size w3 (w3.alloc (.cells #[.int .i64 r1, .string nm, .int .i64 r2, .int .i64 r3, .int .i64 r4] 73)) := (Below.refl _ _).alloc (Nat.le_refl _) _
        obtain ⟨v5, w5, ap5, o5, b5⟩ := app5_any (nm := nm) (mo := [(r1, r2, r3, r4)]) (ow_below O3.out b4) (rowK_one nm w3 (r1, r2, r3, r4) 73) (Nat.le_trans S3 b4.size) (by simp <;> omega)
        have AP5 := Lib.hid ap5
        have b45 : Below W2.heap.size w3 w5 := (b4.mono S3).trans b5
        have B5 := Lib.hid (B3.out.trans (b45.mono B2.out.size))
        have HV5 := Lib.hid (HV2.out.on (SB3.out.trans b45))
        have O5 := Lib.hid o5
        have S5 := Nat.le_trans S3 b45.size
        obtain ⟨t0, t1, t2, t3, t4⟩ := HR3.out
        dsimp only at t0 t1 t2 t3 t4
        have tl := ecell_in t0
        obtain ⟨v7, w7, ap7, o7, b7⟩ := app5_any (nm := nm) (mo := O.drop k) O5.out (HV5.out.drop (c := 5) (fun _ => rfl) k hk (ca - k)) S5 (by simp <;> omega)
        have AP7 := Lib.hid ap7
        have B7 := Lib.hid (B5.out.trans (b7.mono B2.out.size))
        have O7 := Lib.hid (own_rw o7)
        rw [List.append_assoc] at O7
        clear ap5 b45 b5 o5 b4 ap7 o7 b7
        go_upto_region 8 with (at_builtin; refine wpList_app rfl _ _ 75 rfl _ _ _ _ rfl rfl AP3.out ?_)
        go_upto_region 9 with (at_builtin; refine wpList_app rfl _ _ 75 rfl _ _ _ _ rfl rfl AP5.out ?_)
        clear t0 t1 t2 t3 t4 tl AP3 AP5
        go_wp2_with (at_builtin; refine wpList_app rfl _ _ 75 rfl _ _ _ _ rfl rfl AP7.out ?_)
        go_ret
        exact ⟨_, _, rfl, O7.out, PU.out, B7.out⟩
  · have PU := Lib.hid (show Put O (r1, r2, r3, r4) O from ⟨HO.out, fun z => ⟨fun q => Or.inl q, fun q => q.elim id (fun e => by rw [e]; exact heq rfl)⟩, by omega⟩)
    go_wp2
    go_ret
    exact ⟨_, O, rfl, HRW.out.on B2.out, PU.out, B2.out⟩
end Go.Proofs.YtoncfgfjdlgfcaaGreatDoor
namespace Go.Proofs.YtoncfgfjdlgfcaaGreatDoor
open Go.RowKit Cal Txt

/-- Does a ring count of a stretch? -/
def inR (fr t : Int) (x : Rg) : Bool := ist x.1 && decide (fr ≤ x.1) && decide (x.1 ≤ t)
/-- The rings of Times that count. -/
def dG (n : Int) (al : List Al) (fr t : Int) (ys : List Tm) : List Rg := ys.flatMap (fun y => (rgO n al y).filter (inR fr t))
theorem dG_snoc (n : Int) (al : List Al) (fr t : Int) (ys : List Tm) (k : Nat) (h : k < ys.length) : dG n al fr t (ys.take (k + 1)) = dG n al fr t (ys.take k) ++ (rgO n al (ys.getD k (0, 0, 0))).filter (inR fr t) := by
  unfold dG
  rw [List.take_succ_eq_append_getElem h, List.flatMap_append, List.getD_eq_getElem?_getD, List.getElem?_eq_getElem h]
  simp
theorem dG_le (n : Int) (al : List Al) (fr t : Int) (ys : List Tm) (k : Nat) : (dG n al fr t (ys.take k)).length ≤ (dG n al fr t ys).length := by
  have e : dG n al fr t ys = dG n al fr t (ys.take k) ++ dG n al fr t (ys.drop k) := by
    unfold dG
    rw [← List.flatMap_append, List.take_append_drop]
  rw [e, List.length_append]
  omega
theorem inR_iff {fr t : Int} {x : Rg} (h1 : 1 ≤ fr) (h2 : t ≤ 157785119) : inR fr t x = true ↔ fr ≤ x.1 ∧ x.1 < t + 1 := by
  unfold inR
  rw [Bool.and_eq_true, Bool.and_eq_true, decide_eq_true_iff, decide_eq_true_iff]
  constructor
  · rintro ⟨⟨_, a⟩, b⟩; omega
  · rintro ⟨a, b⟩; exact ⟨⟨ist_yes (by omega) (by omega), a⟩, by omega⟩
theorem dG_mem {a : Int} {l : List (Int × Int)} {e : Evt} {fr t : Int} {x : Rg} (h : evF e = 0) (hz : Zo.zf a l = 0) (h1 : 1 ≤ fr) (h2 : t ≤ 157785119) : x ∈ dG e.len e.alm fr t (tmA a l e (fr - 400000) (t + 400000)) ↔ isRg a l e fr (t + 1) x := by
  unfold dG isRg
  simp only [List.mem_flatMap, List.mem_filter]
  constructor
  · rintro ⟨y, hy, hx, hi⟩
    obtain ⟨y1, y2, _, _⟩ := (tmA_mem h hz).1 hy
    exact ⟨y, ⟨y1, y2⟩, rgO_mem.1 hx, (inR_iff h1 h2).1 hi⟩
  · rintro ⟨y, ⟨y1, y2⟩, ⟨k, hk, u, hu, rfl⟩, hi⟩
    have b := rg1_at h (y := y) hk hu
    have r := rea_in h
    refine ⟨y, (tmA_mem h hz).2 ⟨y1, y2, ?_, ?_⟩, rgO_mem.2 ⟨k, hk, u, hu, rfl⟩, (inR_iff h1 h2).2 hi⟩ <;> omega
theorem dG_apart {a : Int} {l : List (Int × Int)} {e : Evt} {fr t f2 t2 : Int} (h : evF e = 0) : (dG e.len e.alm fr t (tmA a l e f2 t2)).Pairwise (fun x z => x ≠ z) := by
  unfold dG
  rw [List.pairwise_flatMap]
  refine ⟨fun y _ => (rgO_apart _ _ y).filter _, (tmA_apart h).imp (fun {y y'} q x hx z hz e => ?_)⟩
  obtain ⟨k, _, u, _, rfl⟩ := rgO_mem.1 (List.mem_filter.1 hx).1
  obtain ⟨k', _, u', _, rfl⟩ := rgO_mem.1 (List.mem_filter.1 hz).1
  have := congrArg (fun r : Rg => r.2.1) e
  simp [rg1] at this
  exact q this
theorem dG_len {a : Int} {l : List (Int × Int)} {e : Evt} {fr t : Int} (h : evF e = 0) (hz : Zo.zf a l = 0) (h1 : 1 ≤ fr) (h2 : t ≤ 157785119) : (dG e.len e.alm fr t (tmA a l e (fr - 400000) (t + 400000))).length = (rgS a l e fr (t + 1)).length := by
  have n1 : (dG e.len e.alm fr t (tmA a l e (fr - 400000) (t + 400000))).Nodup := dG_apart h
  have n2 : (rgS a l e fr (t + 1)).Nodup := (rgS_rise h).imp (fun {x y} q e => by subst e; unfold ltR at q; omega)
  exact ((List.perm_ext_iff_of_nodup n1 n2).2 (fun x => by rw [dG_mem h hz h1 h2, rgS_mem h hz])).length_eq
/-- What is put in order is the program's list. -/
theorem dG_is {a : Int} {l : List (Int × Int)} {e : Evt} {fr t : Int} (h : evF e = 0) (hz : Zo.zf a l = 0) (h1 : 1 ≤ fr) (h2 : t ≤ 157785119) {P : List Rg} (hp : P.Pairwise ltR) (hm : ∀ z, z ∈ P ↔ z ∈ dG e.len e.alm fr t (tmA a l e (fr - 400000) (t + 400000))) : P = rgS a l e fr (t + 1) :=
  rg_ext hp (rgS_rise h) (fun x => by rw [hm x, dG_mem h hz h1 h2, rgS_mem h hz])
/-- How far the list is put in order. -/
def SoI (O : List Rg) (j : Nat) (P : List Rg) : Prop := P.Pairwise ltR ∧ (∀ z, z ∈ P ↔ z ∈ O.take j) ∧ P.length ≤ j
theorem SoI.start (O : List Rg) : SoI O 0 [] := ⟨List.Pairwise.nil, fun z => by simp, Nat.le_refl _⟩
theorem SoI.next {O : List Rg} {j : Nat} {P Q : List Rg} (h : SoI O j P) (hj : j < O.length) (q : Put P (O.getD j (0, 0, 0, 0)) Q) : SoI O (j + 1) Q := by
  refine ⟨q.1, fun z => ?_, by have := q.2.2; have := h.2.2; omega⟩
  rw [q.2.1 z, h.2.1 z, List.take_succ_eq_append_getElem hj, List.mem_append, List.mem_singleton, List.getD_eq_getElem?_getD, List.getElem?_eq_getElem hj]
  rfl
end Go.Proofs.YtoncfgfjdlgfcaaGreatDoor
namespace Go.Proofs.YtoncfgfjdlgfcaaGreatDoor
open Go.RowKit Cal Txt

theorem tmA_facts {a : Int} {l : List (Int × Int)} {e : Evt} {fr t : Int} {y : Tm} (h : evF e = 0) (hz : Zo.zf a l = 0) (hy : y ∈ tmA a l e fr t) : 1 ≤ y.2.1 ∧ y.2.1 ≤ 157785119 ∧ y.2.2 = y.2.1 + e.len := by
  have q := (tmA_mem h hz).1 hy
  have b := isTm_time q
  obtain ⟨_, ⟨r, _, q2⟩, _, _⟩ := q
  exact ⟨b.1, b.2, (tim_some q2).2.2.1⟩
/-- What the document's Rings tells. -/
def drF (a : Int) (l : List (Int × Int)) (e : Evt) (fr t : Int) : Int := if 400 < (rgS a l e fr (t + 1)).length then 4 else 0
def drL (a : Int) (l : List (Int × Int)) (e : Evt) (fr t : Int) : List Rg := if 400 < (rgS a l e fr (t + 1)).length then [] else rgS a l e fr (t + 1)
def DrA (a : Int) (l : List (Int × Int)) (e : Evt) (fr t : Int) (w : World) (x : Ending) (w' : World) : Prop := ∃ u, x = .returned (.tuple #[u, .int .i64 (drF a l e fr t)]) ∧ RowK (encR e.name) w' u (drL a l e fr t) ∧ Below w.heap.size w w'
theorem one_newsR (wa : World) (x : Rg) (nm : ByteArray) : ∀ j u, [Value.int .i64 x.1, .string nm, .int .i64 x.2.1, .int .i64 x.2.2.1, .int .i64 x.2.2.2][j]? = some u → (wa.alloc (.cells #[.int .i64 x.1, .string nm, .int .i64 x.2.1, .int .i64 x.2.2.1, .int .i64 x.2.2.2] 73)).drew.cell? ((⟨wa.heap.size, 0, none⟩ : Addr).add j) = some u := fun j u hj => by
  match j, hj with
  | 0, hj => simp at hj; subst hj; simp [Addr.add]
  | 1, hj => simp at hj; subst hj; simp [Addr.add]
  | 2, hj => simp at hj; subst hj; simp [Addr.add]
  | 3, hj => simp at hj; subst hj; simp [Addr.add]
  | 4, hj => simp at hj; subst hj; simp [Addr.add]
theorem one_cellsR (x : Rg) (nm : ByteArray) : ∀ u ∈ [Value.int .i64 x.1, .string nm, .int .i64 x.2.1, .int .i64 x.2.2.1, .int .i64 x.2.2.2], u.oneCell' = true := by intro u hu; simp at hu; rcases hu with rfl | rfl | rfl | rfl | rfl <;> rfl
set_option maxRecDepth 100000 in
set_option maxHeartbeats 16000000 in
theorem refRings_any (a : Int) (l : List (Int × Int)) (v : Value) (e : Evt) (s : Evs) (fr t : Int) (w : World) (hz : ZoneIn w v a l) (hf : Zo.zf a l = 0) (hv : EvB w e s) (h : evF e = 0) (o1 : 1 ≤ fr) (o2 : fr ≤ 157785119) (o3 : 0 ≤ t) (o4 : t ≤ 157785119) :
    Calls Tryz.prog 26 #[v, .agg (ecells e s), .int .i64 fr, .int .i64 t] w (DrA a l e fr t w) := by
  obtain ⟨i0, hi, hz0, hz1, hz2⟩ := info_parts info_rg
  obtain ⟨e1, e2⟩ := (evF_lens h).2.2.2.2.2
  obtain ⟨h3, h4⟩ := evF_alm h
  have HZ := Lib.hid (fun W (q : Below w.heap.size w W) => hz.on q)
  have HV := Lib.hid (fun W (q : Below w.heap.size w W) => hv.on q)
  have VA := Lib.hid (fun W (q : Below w.heap.size w W) => (hv.on q).2.2.2.2.2.2.2)
  obtain ⟨sa, sc, rfl⟩ := hz.form
  obtain ⟨W0, hW, B0, zz, Z0, R0⟩ := two_boxes w a l sa sc e s
  have HW := Lib.hid hW
  have HB := Lib.hid B0
  have HE := Lib.hid R0
  have HX := Lib.hid Z0
  have K1 := Lib.hid (refBtw_any a l _ e s (fr - 400000) (t + 400000) W0 (hz.on B0) hf (hv.on B0) h (by omega) (by omega) (by omega) (by omega))
  have YF := Lib.hid (fun y (q : y ∈ tmA a l e (fr - 400000) (t + 400000)) => tmA_facts h hf q)
  have YL := Lib.hid (tmA_len (a := a) (l := l) (fr := fr - 400000) (t := t + 400000) h)
  have DI := Lib.hid (fun P hp hm => dG_is (a := a) (l := l) (fr := fr) (t := t) h hf o1 o4 (P := P) hp hm)
  have GL := Lib.hid (fun y k q => rgT_len (n := e.len) (y := y) h4 (k := k) q)
  have H4 := Lib.hid h4
  have N0 : Hid (¬ 400 < (dG e.len e.alm fr t (tmA a l e (fr - 400000) (t + 400000))).length → drF a l e fr t = 0 ∧ drL a l e fr t = rgS a l e fr (t + 1)) := Lib.hid (fun q => by
    rw [dG_len h hf o1 o4] at q
    exact ⟨if_neg q, if_neg q⟩)
  have N4 : Hid (400 < (dG e.len e.alm fr t (tmA a l e (fr - 400000) (t + 400000))).length → drF a l e fr t = 4 ∧ drL a l e fr t = []) := Lib.hid (fun q => by
    rw [dG_len h hf o1 o4] at q
    exact ⟨if_pos q, if_pos q⟩)
  unfold DrA
  unfold RbA at K1
  generalize drF a l e fr t = FF at N0 N4 ⊢
  generalize drL a l e fr t = FL at N0 N4 ⊢
  generalize tmA a l e (fr - 400000) (t + 400000) = Y at K1 YF YL DI N0 N4
  generalize rgS a l e fr (t + 1) = RS at DI N0
  clear hz hv hW B0 zz Z0 R0 h hf h4
  go_enter Tryz.func26, Tryz.ntmps26
  go_upto_region 1 with fail
  rw [← HW.out]
  clear HW
  obtain ⟨z0, z1⟩ := HX.out
  have zl := ecell_in z0
  go_wp2_with (refine ev_load (by rfl) (.tmp 5) (by rfl) (w.heap.size + 1) e s (by rfl) HE.out ?_)
  clear z0 z1 zl
  refine K1.out.mono ?_
  rintro x w1 ⟨u1, rfl, ht1, hb⟩
  have B1 := Lib.hid (HB.out.trans (hb.mono HB.out.size))
  have E1 := Lib.hid (HE.out.on hb)
  obtain ⟨ya, yc, rfl, hyc⟩ := ht1
  have HY := Lib.hid hyc
  obtain ⟨va, vc, ev, hva⟩ := VA.out _ B1.out
  have HC := Lib.hid hva
  clear hb K1 HB HE HX VA hyc hva
  go_upto_block 0 with fail
  go_cut [11, 12, 13, 14, 15, 16, 17, 18] from 21 to 115 (fun s11 s12 s13 s14 s15 s16 s17 s18 wx => (dG e.len e.alm fr t Y).length ≤ 400 ∧ wx.ownsRow w1.heap.size 73 5 s11 (dG e.len e.alm fr t Y).length ((dG e.len e.alm fr t Y).flatMap (encR e.name)) ∧ Below w1.heap.size w1 wx)
  case first =>
    have SY : Hid (∀ X, Below w1.heap.size w1 X → X.cell? ⟨w.heap.size + 1, 0, none⟩ = some (.string e.name) ∧ X.cell? ⟨w.heap.size + 1, 16, none⟩ = some (.slice va e.alm.length vc)) := Lib.hid (fun X q => ⟨(E1.out.on q).1.1, by rw [← ev]; exact (E1.out.on q).2.2.2.2.2⟩)
    go_wp2_with fail
    go_loopw [11, 12, 13, 14, 15, 16, 17, 18] (fun lv iv _ _ _ _ _ _ wr => ∃ i : Nat, i ≤ Y.length ∧ iv = .int .i64 i ∧ (dG e.len e.alm fr t (Y.take i)).length ≤ 400 ∧ wr.ownsRow w1.heap.size 73 5 lv (dG e.len e.alm fr t (Y.take i)).length ((dG e.len e.alm fr t (Y.take i)).flatMap (encR e.name)) ∧ Below w1.heap.size w1 wr) (fun _ iv _ _ _ _ _ _ _ => Y.length - (intOf iv).toNat)
    case atStart => exact ⟨0, Nat.zero_le _, rfl, Nat.zero_le _, World.ownsRow_nil _ _ _ _, Below.refl _ _⟩
    case round =>
      obtain ⟨i, hiY, rfl, hlen, hown, hB⟩ := hrel
      have HO := Lib.hid hown
      have HBr := Lib.hid hB
      by_cases hlt : i < Y.length
      · rcases HY.out with hc | ⟨yb, yo, rfl, hc⟩
        · rw [hc] at hlt; simp at hlt
        obtain ⟨c0, c1, c2⟩ := hc i hlt
        obtain ⟨f1, f2, f3⟩ := YF.out _ (tm_mem4 hlt)
        have SN := Lib.hid (dG_snoc e.len e.alm fr t Y i hlt)
        have DE := Lib.hid (dG_le e.len e.alm fr t Y (i + 1))
        have GLy := Lib.hid (fun k q => GL.out (Y.getD i (0, 0, 0)) k q)
        have GS := Lib.hid (fun k => rgT_succ e.len e.alm (Y.getD i (0, 0, 0)) k)
        have GO : Hid (rgO e.len e.alm (Y.getD i (0, 0, 0)) = rgT e.len e.alm (Y.getD i (0, 0, 0)) e.alm.length) := Lib.hid rfl
        have RG : Hid (∀ k X (u : Nat), rg1 e.len (Y.getD i (0, 0, 0)) k X u = ((Y.getD i (0, 0, 0)).2.1 + bhd e.len X + u * X.2.2.2, (Y.getD i (0, 0, 0)).1, (k : Int), (u : Int))) := Lib.hid (fun k X u => rfl)
        generalize Y.getD i (0, 0, 0) = y at c0 c1 c2 f1 f2 f3 SN GLy GS GO RG
        generalize dG e.len e.alm fr t (Y.take i) = O at SN hlen HO hown
        obtain ⟨O1, hO1⟩ : ∃ O1, O1 = dG e.len e.alm fr t (Y.take (i + 1)) := ⟨_, rfl⟩
        rw [← hO1] at SN DE
        have HO1 := Lib.hid hO1
        clear hO1
        obtain ⟨y1, y2, y3⟩ := y
        dsimp only at c0 c1 c2 f1 f2 f3 RG
        have YC := Lib.hid (fun X (q : Below w1.heap.size w1 X) => And.intro ((q.cell (p := ⟨yb, yo + i * 3, none⟩) (ecell_in c0)).trans c0) (And.intro ((q.cell (p := ⟨yb, yo + i * 3 + 1, none⟩) (ecell_in c0)).trans c1) ((q.cell (p := ⟨yb, yo + i * 3 + 2, none⟩) (ecell_in c0)).trans c2)))
        clear hc c0 c1 c2 hown hB
        go_wp2_with fail
        go_loopw [11, 13, 14, 15, 16, 17, 18] (fun lv kv _ _ _ _ _ wk => ∃ k : Nat, k ≤ e.alm.length ∧ kv = .int .i64 k ∧ wk.ownsRow w1.heap.size 73 5 lv (O ++ (rgT e.len e.alm (y1, y2, y3) k).filter (inR fr t)).length ((O ++ (rgT e.len e.alm (y1, y2, y3) k).filter (inR fr t)).flatMap (encR e.name)) ∧ Below w1.heap.size w1 wk) (fun _ kv _ _ _ _ _ _ => e.alm.length - (intOf kv).toNat)
        case atStart => exact ⟨0, Nat.zero_le _, rfl, by simpa [rgT] using HO.out, HBr.out⟩
        case round =>
          clear HO HBr
          obtain ⟨k, hk, rfl, hown, hB⟩ := hrel
          obtain ⟨wk, hwk⟩ := wnm5 hB
          subst hwk
          have HO := Lib.hid hown
          have HBr := Lib.hid hB
          obtain ⟨s0, s16⟩ := SY.out _ hB
          have sl := ecell_in s16
          by_cases hka : k < e.alm.length
          · rcases HC.out with hc | ⟨lb, lo, rfl, hc⟩
            · rw [hc] at hka; simp at hka
            obtain ⟨k0, k1, k2, k3⟩ := hc k hka
            have ax := H4.out _ (alm_mem hka)
            have gl := GLy.out k (by omega)
            have GK := Lib.hid (GS.out k)
            have RK := Lib.hid (fun u => RG.out k (e.alm.getD k (0, false, 0, 0)) u)
            generalize e.alm.getD k (0, false, 0, 0) = X at k0 k1 k2 k3 ax GK RK
            obtain ⟨x1, x2, x3, x4⟩ := X
            dsimp only at k0 k1 k2 k3 RK
            obtain ⟨⟨v1, v2⟩, ⟨r1, r2⟩, ⟨p1, p2⟩, _⟩ := alF_in ax
            dsimp only at v1 v2 r1 r2 p1 p2
            have bi := bhd_in ax e1 e2
            have q0 := (hB.cell (p := ⟨lb, lo + k * 4, none⟩) (ecell_in k0)).trans k0
            have q1 := (hB.cell (p := ⟨lb, lo + k * 4 + 1, none⟩) (ecell_in k0)).trans k1
            have q2 := (hB.cell (p := ⟨lb, lo + k * 4 + 2, none⟩) (ecell_in k0)).trans k2
            have q3 := (hB.cell (p := ⟨lb, lo + k * 4 + 3, none⟩) (ecell_in k0)).trans k3
            have lb2 := ecell_in q0
            have b3 : Below wk.heap.size wk (wk.alloc (.cells #[.int .i64 x1, .bool x2, .int .i64 x3, .int .i64 x4] 115)) := (Below.refl _ _).alloc (Nat.le_refl _) _
            have A3 : ABh (wk.alloc (.cells #[.int .i64 x1, .bool x2, .int .i64 x3, .int .i64 x4] 115)) wk.heap.size (x1, x2, x3, x4) := heap_alloc_new wk _
            obtain ⟨W3, hW3⟩ : ∃ W3, W3 = wk.alloc (.cells #[.int .i64 x1, .bool x2, .int .i64 x3, .int .i64 x4] 115) := ⟨_, rfl⟩
            rw [← hW3] at b3 A3
            have HW3 := Lib.hid hW3
            have BW := Lib.hid (HBr.out.trans (b3.mono HBr.out.size))
            have HA3 := Lib.hid A3
            have HO3 := Lib.hid (ow_below hown b3)
            obtain ⟨bA, hbA⟩ : ∃ bA, bA = wk.heap.size := ⟨_, rfl⟩
            obtain ⟨AT, hAT⟩ : ∃ AT, AT = (if x2 = true then y3 else y2) := ⟨_, rfl⟩
            have FE : Hid (y2 + bhd e.len (x1, x2, x3, x4) = AT + x1) := Lib.hid (by
              rw [hAT]
              unfold bhd
              dsimp only
              split <;> omega)
            have at1 : 1 ≤ AT := by rw [hAT]; split <;> omega
            have at2 : AT ≤ 158000000 := by rw [hAT]; split <;> omega
            have HAT := Lib.hid hAT
            have g31 : 1 ≤ y3 := by omega
            have g32 : y3 ≤ 158000000 := by omega
            clear f3
            clear hc k0 k1 k2 k3 hB b3 A3 hW3 ax hown HO HBr hAT
            go_upto_region 10 with fail
            rw [← HW3.out, ← hbA]
            rw [← hbA] at HA3
            clear HW3 q0 q1 q2 q3 lb2 s0 s16 sl hbA
            obtain ⟨yc0, yc1, yc2⟩ := YC.out _ BW.out
            have yl := ecell_in yc0
            obtain ⟨a0, a1, a2, a3⟩ := HA3.out.cells
            have al := ecell_in a0
            dsimp only at a0 a1 a2 a3
            go_upto_if 52 with fail
            go_cut [15] from 34 to 99 (fun s15 wx => s15 = .int .i64 AT ∧ wx = W3)
            case first =>
              rcases x2 with _ | _
              · have E : Hid (AT = y2) := Lib.hid (by rw [HAT.out]; rfl)
                go_wp2
                go_meet
                case rel => exact ⟨by rw [E.out], rfl⟩
              · have E : Hid (AT = y3) := Lib.hid (by rw [HAT.out]; rfl)
                go_wp2
                go_meet
                case rel => exact ⟨by rw [E.out], rfl⟩
            case rest =>
            obtain ⟨rfl, hw⟩ := hcut
            replace hw := hw.symm
            subst hw
            have GX : Hid (rgX e.len (y1, y2, y3) k (x1, x2, x3, x4) = (List.range (x3.toNat + 1)).map (rg1 e.len (y1, y2, y3) k (x1, x2, x3, x4))) := Lib.hid rfl
            generalize rgX e.len (y1, y2, y3) k (x1, x2, x3, x4) = XS at GX GK
            generalize rg1 e.len (y1, y2, y3) k (x1, x2, x3, x4) = RF at RK GX
            generalize rgT e.len e.alm (y1, y2, y3) k = RT at GK HO3 gl
            clear yc0 yc1 yc2 yl a0 a1 a2 a3 al HAT bi
            go_wp2_with fail
            go_loopw [11, 16, 17, 18] (fun lv uv _ _ wq => ∃ u : Nat, (u : Int) ≤ x3 + 1 ∧ uv = .int .i64 u ∧ wq.ownsRow w1.heap.size 73 5 lv (O ++ (RT ++ (List.range u).map RF).filter (inR fr t)).length ((O ++ (RT ++ (List.range u).map RF).filter (inR fr t)).flatMap (encR e.name)) ∧ ABh wq bA (x1, x2, x3, x4) ∧ Below w1.heap.size w1 wq) (fun _ uv _ _ _ => x3.toNat + 1 - (intOf uv).toNat)
            case atStart => exact ⟨0, by omega, rfl, by simpa using HO3.out, HA3.out, BW.out⟩
            case round =>
              clear HO3 HA3 BW
              obtain ⟨u, hu, rfl, hown, hA, hB⟩ := hrel
              obtain ⟨wq, hwq⟩ := wnm5 hB
              subst hwq
              have HO := Lib.hid hown
              have HBx := Lib.hid hB
              have HAx := Lib.hid hA
              obtain ⟨a0, a1, a2, a3⟩ := hA.cells
              have al := ecell_in a0
              dsimp only at a0 a1 a2 a3
              by_cases hlt3 : (u : Int) ≤ x3
              · obtain ⟨UM, mu⟩ : ∃ UM, (u : Int) * x4 = UM := ⟨_, rfl⟩
                obtain ⟨m1, m2⟩ := mul_in (u := u) (x := x4) (by omega) p1 p2
                rw [mu] at m1 m2
                have RU : Hid (RF u = (AT + x1 + UM, y1, (k : Int), (u : Int))) := Lib.hid (by rw [RK.out u, mu, FE.out])
                have MS := Lib.hid (map_snoc RF RT u)
                have fl : (O ++ (RT ++ (List.range u).map RF).filter (inR fr t)).length ≤ 500 := by
                  rw [List.length_append]
                  have := List.length_filter_le (inR fr t) (RT ++ (List.range u).map RF)
                  rw [List.length_append, List.length_map, List.length_range] at this
                  omega
                have NE := Lib.hid (row_ne hown hA (by decide))
                have sz := hB.size
                generalize (List.range u).map RF = RM at HO MS fl hown
                generalize RT ++ RM = RS3 at HO MS fl hown
                generalize RF u = RU1 at RU MS
                obtain ⟨NN, hNN⟩ : ∃ NN, NN = AT + x1 + UM := ⟨_, rfl⟩
                have SS : Hid (∀ X, Below w1.heap.size w1 X → X.cell? ⟨w.heap.size + 1, 0, none⟩ = some (.string e.name) ∧ X.cell? ⟨yb, yo + i * 3, none⟩ = some (.int .i64 y1)) := Lib.hid (fun X q => ⟨(SY.out _ q).1, (YC.out _ q).1⟩)
                have FY : Hid (inR fr t RU1 = true → O ++ (RS3 ++ [RU1]).filter (inR fr t) = (O ++ RS3.filter (inR fr t)) ++ [RU1]) := Lib.hid (fun q => by rw [List.filter_append, List.filter_cons_of_pos q, List.filter_nil, List.append_assoc])
                have FN : Hid (inR fr t RU1 = false → O ++ (RS3 ++ [RU1]).filter (inR fr t) = O ++ RS3.filter (inR fr t)) := Lib.hid (fun q => by rw [List.filter_append, List.filter_cons_of_neg (by rw [q]; decide), List.filter_nil, List.append_nil])
                have FT : Hid (inR fr t RU1 = ((ist NN && decide (fr ≤ NN)) && decide (NN ≤ t))) := Lib.hid (by rw [RU.out, ← hNN]; rfl)
                have HNN := Lib.hid hNN
                generalize O ++ RS3.filter (inR fr t) = OL at HO fl FY FN hown
                clear hown hA hB
                go_upto_region 17 with fail
                rw [← HNN.out]
                clear hNN
                go_wp2_with fail
                refine (refTime_any NN _).mono ?_
                rintro x w6 ⟨rfl, hw6⟩
                replace hw6 := hw6.symm
                subst hw6
                generalize ist NN = b1 at FT ⊢
                have ue : u + 1 ≤ x3.toNat + 1 := by omega
                obtain ⟨n0, n16⟩ := SY.out _ HBx.out
                obtain ⟨m0, m1', m2'⟩ := YC.out _ HBx.out
                have nl := ecell_in n0
                have ml := ecell_in m0
                clear a0 a1 a2 a3 n16 m1' m2'
                by_cases hb : b1 = true ∧ fr ≤ NN ∧ NN ≤ t
                · obtain ⟨rfl, g1, g2⟩ := hb
                  have QF := Lib.hid (FY.out (by rw [FT.out]; simp [g1, g2]))
                  clear FY FN FT
                  go_upto_region 19 with fail
                  go_region_held3 (fun X => X.cell? ⟨w.heap.size + 1, 0, none⟩ = some (.string e.name) ∧ X.cell? ⟨yb, yo + i * 3, none⟩ = some (.int .i64 y1))
                    (first | exact SS.out _ (Below.drew HBx.out) | exact SS.out _ (Below.alloc (Below.drew HBx.out) sz _) | exact SS.out _ (Below.drew (Below.alloc HBx.out sz _)) | exact SS.out _ hb3)
                    (first
                    | (refine Zo.step_append_own rfl _ _ 75 rfl w1.heap.size 73 i0 (.agg #[.int .i64 0, .string ⟨#[]⟩, .int .i64 0, .int .i64 0, .int .i64 0]) 5 48 Tryz.underlying75 hi hz0 hz1 hz2 rfl (by decide) _ OL.length (OL.flatMap (encR e.name)) rfl (ow_below HO.out (Below.drew (Below.alloc (Below.refl _ _) (Nat.le_refl _) _))) ⟨wq.heap.size, 0, none⟩ 1 1 [.int .i64 NN, .string e.name, .int .i64 y1, .int .i64 (k : Int), .int .i64 (u : Int)] rfl rfl (one_newsR _ (NN, y1, (k : Int), (u : Int)) _) (one_cellsR (NN, y1, (k : Int), (u : Int)) _) (by unfold maxLen; omega) (by omega) (Nat.le_trans sz (by simp)) ?_; intro v' w3 R1 R2; have hb3 : Below w1.heap.size w1 w3 := Below.grown (Below.drew (Below.alloc HBx.out sz _)) R2 (Nat.le_trans sz (by simp)) (fun j hj => (HO.out.lt j hj).1); have Q1 := Lib.hid R1; have Q3 : Hid (ABh w3 bA (x1, x2, x3, x4)) := Lib.hid ((R2.block bA (by simp; omega) NE.out).trans (HAx.out.on (Below.drew (Below.alloc (Below.refl _ _) (Nat.le_refl _) _)))); clear R1 R2))
                  all_goals
                    have Q2 := Lib.hid hb3
                    have Q4 : Hid (w3.ownsRow w1.heap.size 73 5 v' (OL ++ [RU1]).length ((OL ++ [RU1]).flatMap (encR e.name))) := Lib.hid (by
                      rw [List.length_append, List.flatMap_append, RU.out, ← HNN.out]
                      exact Q1.out)
                    clear hb3 n0 m0 nl ml Q1
                    go_wp2
                    go_roundw
                    case rel => exact ⟨u + 1, by omega, by go_num, by rw [MS.out, QF.out]; exact Q4.out, Q3.out, Q2.out⟩
                    case measure => simp [intOf]; omega
                · have QF := Lib.hid (FN.out (by
                    rw [FT.out]
                    rcases b1 with _ | _
                    · rfl
                    · by_cases g1 : fr ≤ NN
                      · by_cases g2 : NN ≤ t
                        · exact absurd ⟨rfl, g1, g2⟩ hb
                        · simp [g2]
                      · simp [g1]))
                  clear FY FN FT n0 m0 nl ml
                  have HH := Lib.hid hb
                  clear hb
                  rcases b1 with _ | _
                  · clear HH
                    go_wp2
                    go_roundw
                    case rel => exact ⟨u + 1, by omega, by go_num, by rw [MS.out, QF.out]; exact HO.out, HAx.out, HBx.out⟩
                    case measure => simp [intOf]; omega
                  · by_cases g1 : fr ≤ NN
                    · have g2 : ¬ NN ≤ t := fun q => HH.out ⟨rfl, g1, q⟩
                      clear HH
                      go_wp2
                      go_roundw
                      case rel => exact ⟨u + 1, by omega, by go_num, by rw [MS.out, QF.out]; exact HO.out, HAx.out, HBx.out⟩
                      case measure => simp [intOf]; omega
                    · clear HH
                      go_wp2
                      go_roundw
                      case rel => exact ⟨u + 1, by omega, by go_num, by rw [MS.out, QF.out]; exact HO.out, HAx.out, HBx.out⟩
                      case measure => simp [intOf]; omega
              · have eu : u = x3.toNat + 1 := by omega
                have Q1 := HO.out
                rw [eu, ← GX.out, ← GK.out] at Q1
                have HQ := Lib.hid Q1
                clear eu hown hA HO Q1
                go_wp2
                go_roundw
                case rel => exact ⟨k + 1, by omega, by go_num, HQ.out, HBx.out⟩
                case measure => simp [intOf]; omega
          · have ek : k = e.alm.length := by omega
            have O9 := HO.out
            rw [ek, ← GO.out, ← SN.out] at O9
            have HO9 := Lib.hid O9
            obtain ⟨oa, oc, eo, _⟩ := own_rowK (enc := encR e.name) (k := 5) (fun _ => rfl) (by decide) O9
            subst eo
            clear ek O9 hown hB HO s0
            by_cases h400 : 400 < O1.length
            · have EV := Lib.hid (N4.out (by have := DE.out; omega))
              have BZ := Lib.hid (B1.out.trans (HBr.out.mono B1.out.size))
              go_wp2
              go_ret2
              exact ⟨_, by rw [EV.out.1]; rfl, by rw [EV.out.2]; exact RowK.nil _ _, BZ.out⟩
            · have yl0 := YL.out
              go_wp2
              go_roundw
              case rel => exact ⟨i + 1, by omega, by go_num, by rw [← HO1.out]; omega, by rw [← HO1.out]; exact HO9.out, HBr.out⟩
              case measure => simp [intOf]; omega
      · have ei : Y.take i = Y := List.take_of_length_le (by omega)
        rw [ei] at HO hlen
        clear ei hown hB
        go_wp2
        go_meet
        case rel => exact ⟨hlen, HO.out, HBr.out⟩
  case rest =>
  obtain ⟨hlen, hown, hB⟩ := hcut
  obtain ⟨w2, hw2⟩ := wnm5 hB
  subst hw2
  have B2 := Lib.hid (B1.out.trans (hB.mono B1.out.size))
  have EV := Lib.hid (N0.out (by omega))
  clear N0 N4
  generalize dG e.len e.alm fr t Y = D at DI hlen hown
  obtain ⟨da, dc, rfl, hdc⟩ := rowK_at (own_rowK (enc := encR e.name) (k := 5) (fun _ => rfl) (by decide) hown)
  have HD := Lib.hid hdc
  clear hB hown hdc
  go_wp2_with fail
  go_loopw [19, 20] (fun lv jv wr => ∃ j : Nat, j ≤ D.length ∧ jv = .int .i64 j ∧ (∃ P, Rw e.name wr lv P ∧ SoI D j P) ∧ Below w2.heap.size w2 wr) (fun _ jv _ => D.length - (intOf jv).toNat)
  case atStart => exact ⟨0, Nat.zero_le _, rfl, ⟨[], Rw.nil _ _, SoI.start _⟩, Below.refl _ _⟩
  case round =>
    obtain ⟨j, hj, rfl, ⟨P, hP, hS⟩, hB⟩ := hrel
    have HBr := Lib.hid hB
    have HP := Lib.hid hP
    have HS := Lib.hid hS
    by_cases hlt : j < D.length
    · rcases HD.out with hc | ⟨b, off, rfl, hc⟩
      · rw [hc] at hlt; simp at hlt
      obtain ⟨p0, p1, p2, p3, p4⟩ := (hc j hlt).on hB
      have pl := ecell_in p0
      have KA := Lib.hid (refAdd_any e.name P (D.getD j (0, 0, 0, 0)) _ _ hP hS.1 (by have := hS.2.2; omega))
      have NX := Lib.hid (fun Q q => hS.next hlt (Q := Q) q)
      generalize D.getD j (0, 0, 0, 0) = X at p0 p1 p2 p3 p4 KA NX
      clear hc hP hS hB
      go_wp2_with fail
      clear p0 p1 p2 p3 p4 pl
      refine KA.out.mono ?_
      rintro x w3 ⟨u3, Q, rfl, hQ, hPu, hb⟩
      have Q1 := Lib.hid (show ∃ P, Rw e.name w3 u3 P ∧ SoI D (j + 1) P from ⟨Q, hQ, NX.out Q hPu⟩)
      have Q2 := Lib.hid (HBr.out.trans (hb.mono HBr.out.size))
      clear hQ hPu hb KA NX
      go_wp2
      go_roundw
      case rel => exact ⟨j + 1, by omega, by go_num, Q1.out, Q2.out⟩
      case measure => simp [intOf]; omega
    · have ej : j = D.length := by omega
      have eP := DI.out P hS.1 (fun z => by rw [hS.2.1 z, ej, List.take_length])
      have ZZ := Lib.hid (And.intro hP.1 (B2.out.trans (hB.mono B2.out.size)))
      rw [eP] at ZZ
      clear hP hS hB ej eP HP HS
      go_wp2
      go_ret2
      exact ⟨_, by rw [EV.out.1]; rfl, by rw [EV.out.2]; exact ZZ.out.1, ZZ.out.2⟩
end Go.Proofs.YtoncfgfjdlgfcaaGreatDoor
