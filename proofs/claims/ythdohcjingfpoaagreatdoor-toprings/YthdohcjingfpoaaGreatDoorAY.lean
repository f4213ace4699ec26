/-
  What is proved here: what cmp.Compare answers at texts, cmp.Or at a row of numbers, and alarm.Order at two rings (contracts over the translation).
  What is proved here: what slices.SortFunc answers at rings of one event, by alarm.Order (a contract over the translation).
  What is proved here: plain facts on the rings of an event: which there are, that no two are the same, and in which order.
  What is proved here: what alarm.within answers (a contract over the translation).
-/
import Derived.Test.YthdohcjingfpoaaGreatDoorAX
import Derived.Deep.RegionHeld3
import Derived.Sort.Grow
import Derived.Laws.Cover1
import Derived.Test.YthdohcjingfpoaaGreatDoorShelfR
import Derived.Shelf.SlSortCmp.WholeK
import Derived.Shelf.SlSortCmp.NoneTotal
namespace Go.Proofs.YthdohcjingfpoaaGreatDoor
open Go.RowKit Cal Txt

/-- How two texts stand. -/
def cms (a b : ByteArray) : Int := if Op.bytesLess a.toList b.toList = true then -1 else if (Op.bytesLess a.toList b.toList || a.toList == b.toList) = false then 1 else 0
theorem less_self : ∀ l : List UInt8, Op.bytesLess l l = false
  | [] => rfl
  | a :: l => by
    have ih := less_self l
    simp [Op.bytesLess, ih]
theorem cms_self (a : ByteArray) : cms a a = 0 := by
  unfold cms
  rw [less_self]
  simp
theorem isNaNS_any (x : ByteArray) (w : World) : Calls Tryz.prog 78 #[.string x] w fun e w' => e = .returned (.bool false) ∧ w' = w := by
  go_enter Tryz.func78, Tryz.ntmps78
  go_wp2
  go_ret
  exact ⟨ret_bool (by simp), rfl⟩
theorem compareS_any (a b : ByteArray) (w : World) : Calls Tryz.prog 40 #[.string a, .string b] w fun e w' => e = .returned (.int .i64 (cms a b)) ∧ w' = w := by
  have N1 : Hid (Op.bytesLess a.toList b.toList = true → cms a b = -1) := Lib.hid (fun h => if_pos h)
  have N2 : Hid (Op.bytesLess a.toList b.toList = false → (a.toList == b.toList) = false → cms a b = 1) := Lib.hid (fun h k => by unfold cms; rw [if_neg (by rw [h]; decide), if_pos (by rw [h, k]; rfl)])
  have N3 : Hid (Op.bytesLess a.toList b.toList = false → (a.toList == b.toList) = true → cms a b = 0) := Lib.hid (fun h k => by unfold cms; rw [if_neg (by rw [h]; decide), if_neg (by rw [h, k]; decide)])
  generalize cms a b = R at N1 N2 N3 ⊢
  rcases h1 : Op.bytesLess a.toList b.toList with _ | _
  · rcases h2 : (a.toList == b.toList) with _ | _
    · have E := Lib.hid (N2.out h1 h2)
      clear N1 N2 N3
      go_enter Tryz.func40, Tryz.ntmps40
      go_wp2_with (go_at_call 78; refine (isNaNS_any _ _).mono ?_; rintro e w' ⟨rfl, rfl⟩)
      go_ret
      exact ⟨ret_int E.out.symm, rfl⟩
    · have E := Lib.hid (N3.out h1 h2)
      clear N1 N2 N3
      go_enter Tryz.func40, Tryz.ntmps40
      go_wp2_with (go_at_call 78; refine (isNaNS_any _ _).mono ?_; rintro e w' ⟨rfl, rfl⟩)
      go_ret
      exact ⟨ret_int E.out.symm, rfl⟩
  · have E := Lib.hid (N1.out h1)
    clear N1 N2 N3
    go_enter Tryz.func40, Tryz.ntmps40
    go_wp2_with (go_at_call 78; refine (isNaNS_any _ _).mono ?_; rintro e w' ⟨rfl, rfl⟩)
    go_ret
    exact ⟨ret_int E.out.symm, rfl⟩
/-- The first of a list that is not 0, or 0. -/
def orL : List Int → Int
  | [] => 0
  | x :: l => if x = 0 then orL l else x
theorem orL_at : ∀ (l : List Int) (k : Nat), k < l.length → (∀ j, j < k → l.getD j 0 = 0) → ¬ l.getD k 0 = 0 → orL l = l.getD k 0
  | x :: l, 0, _, _, h => by
    have h' : ¬ x = 0 := h
    unfold orL
    rw [if_neg h']
    rfl
  | x :: l, k + 1, hk, hz, h => by
    have h0 : x = 0 := hz 0 (by omega)
    unfold orL
    rw [if_pos h0]
    exact orL_at l k (by simpa using hk) (fun j hj => hz (j + 1) (by omega)) h
theorem orL_end : ∀ (l : List Int), (∀ j, j < l.length → l.getD j 0 = 0) → orL l = 0
  | [], _ => rfl
  | x :: l, hz => by
    have h0 : x = 0 := hz 0 (by simp)
    unfold orL
    rw [if_pos h0]
    exact orL_end l (fun j hj => hz (j + 1) (by simp; omega))
set_option maxRecDepth 100000 in
theorem orL_any (xs : List Int) (b : Nat) (w : World) (hc : ∀ i, i < xs.length → w.cell? ⟨b, i, none⟩ = some (.int .i64 (xs.getD i 0))) (hl : xs.length ≤ 100) :
    Calls Tryz.prog 38 #[.slice (some ⟨b, 0, none⟩) xs.length xs.length] w fun e w' => e = .returned (.int .i64 (orL xs)) ∧ w' = w := by
  have HC := Lib.hid hc
  have NA := Lib.hid (orL_at xs)
  have NE := Lib.hid (orL_end xs)
  generalize orL xs = R at NA NE ⊢
  clear hc
  go_enter Tryz.func38, Tryz.ntmps38
  go_wp2_with fail
  go_loop [5, 8] (fun _ i => ∃ k : Nat, k ≤ xs.length ∧ i = .int .i64 k ∧ ∀ j, j < k → xs.getD j 0 = 0) (fun _ i => xs.length - (intOf i).toNat)
  case atStart => exact ⟨0, by omega, rfl, fun j q => by omega⟩
  case round =>
    obtain ⟨k, hk, rfl, p⟩ := hrel
    have HP := Lib.hid p
    clear p
    by_cases hlt : k < xs.length
    · have c := HC.out k hlt
      have bl := ecell_in c
      have NK := Lib.hid (NA.out k hlt HP.out)
      have PK : Hid (xs.getD k 0 = 0 → ∀ j, j < k + 1 → xs.getD j 0 = 0) := Lib.hid (fun z j hj => by
        rcases (by omega : j < k ∨ j = k) with q | q
        · exact HP.out j q
        · rw [q]; exact z)
      generalize xs.getD k 0 = x at c NK PK
      rcases hx : (x != 0) with _ | _
      · have P2 := Lib.hid (PK.out (by simpa using hx))
        go_wp2
        go_round
        case rel => exact ⟨k + 1, by omega, by go_num, P2.out⟩
        case measure => simp [intOf]; omega
      · have E := Lib.hid (NK.out (by simpa using hx))
        go_wp2
        go_ret
        exact ⟨ret_int E.out.symm, rfl⟩
    · have E := Lib.hid (NE.out (fun j hj => HP.out j (by omega)))
      go_wp2
      go_ret
      exact ⟨ret_int E.out.symm, rfl⟩
/-- How two rings stand. -/
def cmR (m n : ByteArray) (x y : Rg) : Int := orL [cmi x.1 y.1, cms m n, cmi x.2.1 y.2.1, cmi x.2.2.1 y.2.2.1, cmi x.2.2.2 y.2.2.2]
set_option maxRecDepth 100000 in
set_option maxHeartbeats 8000000 in
theorem order_any (m n : ByteArray) (x y : Rg) (w : World) :
    Calls Tryz.prog 13 #[.agg #[.int .i64 x.1, .string m, .int .i64 x.2.1, .int .i64 x.2.2.1, .int .i64 x.2.2.2], .agg #[.int .i64 y.1, .string n, .int .i64 y.2.1, .int .i64 y.2.2.1, .int .i64 y.2.2.2]] w fun e w' => e = .returned (.int .i64 (cmR m n x y)) ∧ ∃ q os', w' = Sort.grow (w.drewN q) os' := by
  obtain ⟨W1, hW1⟩ : ∃ W1, W1 = w.alloc (.cells #[.int .i64 x.1, .string m, .int .i64 x.2.1, .int .i64 x.2.2.1, .int .i64 x.2.2.2] 45) := ⟨_, rfl⟩
  have g0 : RBx m W1 w.heap.size x := by rw [hW1]; exact RBx.new m w x _
  have z1 : W1.heap.size = w.heap.size + 1 := by rw [hW1, World.size_alloc]
  obtain ⟨W0, hW0⟩ : ∃ W0, W0 = W1.alloc (.cells #[.int .i64 y.1, .string n, .int .i64 y.2.1, .int .i64 y.2.2.1, .int .i64 y.2.2.2] 45) := ⟨_, rfl⟩
  have g1 : RBx n W0 (w.heap.size + 1) y := by rw [hW0, ← z1]; exact RBx.new n W1 y _
  have f0 : RBx m W0 w.heap.size x := g0.on (by rw [hW0]; exact (Below.refl _ _).alloc (Nat.le_refl _) _)
  have hW : W0 = (w.alloc (.cells #[.int .i64 x.1, .string m, .int .i64 x.2.1, .int .i64 x.2.2.1, .int .i64 x.2.2.2] 45)).alloc (.cells #[.int .i64 y.1, .string n, .int .i64 y.2.1, .int .i64 y.2.2.1, .int .i64 y.2.2.2] 45) := by rw [hW0, hW1]
  have HS : Hid (∀ X, Below W0.heap.size W0 X → (X.cell? ⟨w.heap.size, 0, none⟩ = some (.int .i64 x.1) ∧ X.cell? ⟨w.heap.size, 1, none⟩ = some (.string m) ∧ X.cell? ⟨w.heap.size, 2, none⟩ = some (.int .i64 x.2.1) ∧ X.cell? ⟨w.heap.size, 3, none⟩ = some (.int .i64 x.2.2.1) ∧ X.cell? ⟨w.heap.size, 4, none⟩ = some (.int .i64 x.2.2.2)) ∧ X.cell? ⟨w.heap.size + 1, 0, none⟩ = some (.int .i64 y.1) ∧ X.cell? ⟨w.heap.size + 1, 1, none⟩ = some (.string n) ∧ X.cell? ⟨w.heap.size + 1, 2, none⟩ = some (.int .i64 y.2.1) ∧ X.cell? ⟨w.heap.size + 1, 3, none⟩ = some (.int .i64 y.2.2.1) ∧ X.cell? ⟨w.heap.size + 1, 4, none⟩ = some (.int .i64 y.2.2.2)) := Lib.hid (fun X q => ⟨f0.on q, g1.on q⟩)
  have HW := Lib.hid hW
  have CT : Hid (cmR m n x y = orL [cmi x.1 y.1, cms m n, cmi x.2.1 y.2.1, cmi x.2.2.1 y.2.2.1, cmi x.2.2.2 y.2.2.2]) := Lib.hid rfl
  generalize cmR m n x y = R at CT ⊢
  clear g0 g1 z1 f0 hW hW0 hW1 W1
  have KO : Hid (∀ X, X.cell? ⟨W0.heap.size, 0, none⟩ = some (.int .i64 (cmi x.1 y.1)) → X.cell? ⟨W0.heap.size, 1, none⟩ = some (.int .i64 (cms m n)) → X.cell? ⟨W0.heap.size, 2, none⟩ = some (.int .i64 (cmi x.2.1 y.2.1)) → X.cell? ⟨W0.heap.size, 3, none⟩ = some (.int .i64 (cmi x.2.2.1 y.2.2.1)) → X.cell? ⟨W0.heap.size, 4, none⟩ = some (.int .i64 (cmi x.2.2.2 y.2.2.2)) →
      Calls Tryz.prog 38 #[.slice (some ⟨W0.heap.size, 0, none⟩) 5 5] X fun e w' => e = .returned (.int .i64 R) ∧ w' = X) := Lib.hid (fun X h0 h1 h2 h3 h4 => by
    rw [CT.out]
    exact orL_any [cmi x.1 y.1, cms m n, cmi x.2.1 y.2.1, cmi x.2.2.1 y.2.2.1, cmi x.2.2.2 y.2.2.2] W0.heap.size X (fun i hi => by
      have hi' : i < 5 := hi
      rcases (by omega : i = 0 ∨ i = 1 ∨ i = 2 ∨ i = 3 ∨ i = 4) with rfl | rfl | rfl | rfl | rfl
      · exact h0
      · exact h1
      · exact h2
      · exact h3
      · exact h4) (by simp))
  go_enter Tryz.func13, Tryz.ntmps13
  go_upto_region 1 with fail
  rw [← HW.out]
  go_region_held3 (fun X => (X.cell? ⟨w.heap.size, 0, none⟩ = some (.int .i64 x.1) ∧ X.cell? ⟨w.heap.size, 1, none⟩ = some (.string m) ∧ X.cell? ⟨w.heap.size, 2, none⟩ = some (.int .i64 x.2.1) ∧ X.cell? ⟨w.heap.size, 3, none⟩ = some (.int .i64 x.2.2.1) ∧ X.cell? ⟨w.heap.size, 4, none⟩ = some (.int .i64 x.2.2.2)) ∧ X.cell? ⟨w.heap.size + 1, 0, none⟩ = some (.int .i64 y.1) ∧ X.cell? ⟨w.heap.size + 1, 1, none⟩ = some (.string n) ∧ X.cell? ⟨w.heap.size + 1, 2, none⟩ = some (.int .i64 y.2.1) ∧ X.cell? ⟨w.heap.size + 1, 3, none⟩ = some (.int .i64 y.2.2.1) ∧ X.cell? ⟨w.heap.size + 1, 4, none⟩ = some (.int .i64 y.2.2.2))
    (first | exact HS.out _ (Below.drew (Below.refl _ W0)) | exact HS.out _ (Below.alloc (Below.drew (Below.refl _ W0)) (Nat.le_refl _) _) | exact HS.out _ (Below.drew (Below.alloc (Below.refl _ W0) (Nat.le_refl _) _)))
    (first
    | (go_at_call 39; refine (compare_any _ _ _).mono ?_; rintro e w' ⟨rfl, hw⟩; replace hw := hw.symm; subst hw)
    | (go_at_call 40; refine (compareS_any _ _ _).mono ?_; rintro e w' ⟨rfl, hw⟩; replace hw := hw.symm; subst hw)
    | (go_at_call 38; refine (KO.out _ (by simp) (by simp) (by simp) (by simp) (by simp)).mono ?_; rintro e w' ⟨rfl, hw⟩; replace hw := hw.symm; subst hw))
  have EW : Hid (∃ q os', (W0.alloc (.cells #[.int .i64 (cmi x.1 y.1), .int .i64 (cms m n), .int .i64 (cmi x.2.1 y.2.1), .int .i64 (cmi x.2.2.1 y.2.2.1), .int .i64 (cmi x.2.2.2 y.2.2.2)] 3)).drew = Sort.grow (w.drewN q) os') := Lib.hid (by
    rw [HW.out]
    refine ⟨1, #[(.cells #[.int .i64 x.1, .string m, .int .i64 x.2.1, .int .i64 x.2.2.1, .int .i64 x.2.2.2] 45)] ++ (#[(.cells #[.int .i64 y.1, .string n, .int .i64 y.2.1, .int .i64 y.2.2.1, .int .i64 y.2.2.2] 45)] ++ #[(.cells #[.int .i64 (cmi x.1 y.1), .int .i64 (cms m n), .int .i64 (cmi x.2.1 y.2.1), .int .i64 (cmi x.2.2.1 y.2.2.1), .int .i64 (cmi x.2.2.2 y.2.2.2)] 3)]), ?_⟩
    show (((w.drewN 1).alloc (.cells #[.int .i64 x.1, .string m, .int .i64 x.2.1, .int .i64 x.2.2.1, .int .i64 x.2.2.2] 45)).alloc (.cells #[.int .i64 y.1, .string n, .int .i64 y.2.1, .int .i64 y.2.2.1, .int .i64 y.2.2.2] 45)).alloc (.cells #[.int .i64 (cmi x.1 y.1), .int .i64 (cms m n), .int .i64 (cmi x.2.1 y.2.1), .int .i64 (cmi x.2.2.1 y.2.2.1), .int .i64 (cmi x.2.2.2 y.2.2.2)] 3) = _
    rw [Sort.alloc_eq_grow, Sort.alloc_eq_grow, Sort.alloc_eq_grow, Sort.grow_grow, Sort.grow_grow])
  go_wp2
  go_ret
  exact ⟨rfl, EW.out⟩
end Go.Proofs.YthdohcjingfpoaaGreatDoor
namespace Go.Proofs.YthdohcjingfpoaaGreatDoor
open Go.RowKit Cal Txt

/-- Which ring is ahead. -/
def ltR (x y : Rg) : Prop := x.1 < y.1 ∨ (x.1 = y.1 ∧ (x.2.1 < y.2.1 ∨ (x.2.1 = y.2.1 ∧ (x.2.2.1 < y.2.2.1 ∨ (x.2.2.1 = y.2.2.1 ∧ x.2.2.2 < y.2.2.2)))))
instance (x y : Rg) : Decidable (ltR x y) := by unfold ltR; infer_instance
theorem cmi_z {a b : Int} : cmi a b = 0 ↔ a = b := by unfold cmi; split <;> (try split) <;> omega
theorem cmi_n {a b : Int} : cmi a b < 0 ↔ a < b := by unfold cmi; split <;> (try split) <;> omega
theorem cmR_n (nm : ByteArray) (x y : Rg) : cmR nm nm x y < 0 ↔ ltR x y := by
  unfold cmR ltR
  simp only [orL, cms_self, cmi_z, if_true]
  split
  · rename_i h1
    split
    · rename_i h2
      split
      · rename_i h3
        split
        · omega
        · rw [cmi_n]; omega
      · rw [cmi_n]; omega
    · rw [cmi_n]; omega
  · rw [cmi_n]; omega
theorem cmR_lt (nm : ByteArray) (x y : Rg) : ltOf (cmR nm nm) x y = decide (ltR x y) := by
  unfold ltOf
  rw [Bool.eq_iff_iff, decide_eq_true_iff, decide_eq_true_iff]
  exact cmR_n nm x y
theorem cmR_swo (nm : ByteArray) : Sort.SWO (ltOf (cmR nm nm)) where
  irrefl x := by rw [cmR_lt]; simp [ltR]
  trans x y z h1 h2 := by rw [cmR_lt] at *; simp only [decide_eq_true_iff] at *; unfold ltR at *; omega
  ntrans x y z h1 h2 := by rw [cmR_lt] at *; simp only [decide_eq_false_iff_not] at *; unfold ltR at *; omega
/-- What is sorted. -/
def SrrA (nm : ByteArray) (n0 : Nat) (w : World) (v : Value) (l : List Rg) (e : Ending) (w' : World) : Prop := e = .returned (.tuple #[]) ∧ ∃ b, l.Perm b ∧ b.Pairwise (fun x y => ¬ ltR y x) ∧ Below n0 w w' ∧ w'.ownsRow n0 45 5 v l.length (b.flatMap (encR nm))
theorem sortR_any (nm : ByteArray) (l : List Rg) (n0 : Nat) (v : Value) (w : World) (h : w.ownsRow n0 45 5 v l.length (l.flatMap (encR nm))) (hn : n0 ≤ w.heap.size) (hl : l.length ≤ 1000000) :
    Calls Tryz.prog 59 #[v, .func (.func 13) #[] #[]] w (SrrA nm n0 w v l) := by
  rcases (own_openK (encR nm) 5 (fun _ => rfl) (by decide) h).2 with ⟨rfl, rfl⟩ | ⟨g, cap, rfl, hg, hgl, _, hh⟩
  · refine (AnyF.slices_SortFunc_none Tryz.sortRg none 0 (.func (.func 13) #[] #[]) w).mono ?_
    rintro e w' ⟨rfl, rfl⟩
    exact ⟨rfl, [], List.Perm.refl _, by simp, Below.refl _ _, World.ownsRow_nil _ _ _ _⟩
  · have eg : ∀ args w, (callFunc 13 args).run Tryz.prog w = .ok (.enter 13 args) w := enters_of Tryz.func13 (by kernel_rfl) rfl
    have hcon := AnyQ.slices_SortFunc Tryz.sortRg 5 Tryz.isAgg45 Tryz.sizeOf45 (encR nm) (fun _ => rfl) (fun x u hu => by simp [encR] at hu; rcases hu with rfl | rfl | rfl | rfl | rfl <;> rfl) (cmR nm nm) (cmR_swo nm) 13 #[] g 0 cap l.toArray w eg (fun _ _ _ _ x y => order_any nm nm x y _) hh hgl (by simp; omega)
    refine hcon.mono ?_
    rintro e w' ⟨rfl, d', n, os, hp, hs, rfl⟩
    have hsz : d'.size = l.toArray.size := hp.1
    refine ⟨rfl, d'.toList, ?_, ?_, ?_, ?_⟩
    · have := hp.2.2
      rw [← hsz, Array.extract_size, hsz, Array.extract_size] at this
      simpa using this.symm
    · rw [List.pairwise_iff_getElem]
      intro i j hi hj hij
      have := hs i j (Nat.zero_le _) hij (by rw [← hsz]; simpa using hj)
      rw [cmR_lt, getElem!_pos _ i (by simpa using hi), getElem!_pos _ j (by simpa using hj)] at this
      simpa using this
    · exact ((show Below n0 w (Sort.ahead w n) from ⟨rfl, rfl, rfl, Nat.le_refl _, fun _ _ => rfl⟩).trans (belowK hg)).trans (belowG os (by simpa [Sort.putRowK] using hn))
    · exact ow_below (own_putK (encR nm) 5 (fun _ => rfl) (by decide) (q := n) h d' (by simpa using hsz)) (belowG os (Nat.le_refl _))
end Go.Proofs.YthdohcjingfpoaaGreatDoor
namespace Go.Proofs.YthdohcjingfpoaaGreatDoor
open Go.RowKit Cal Txt

/-- The rings of Times that are in a stretch. -/
def rgG (n : Int) (al : List Al) (fr t : Int) (ys : List Tm) : List Rg := ys.flatMap (fun y => (rgO n al y).filter (fun x => !ouB fr t x))
def rgL (a : Int) (l : List (Int × Int)) (e : Evt) (fr t : Int) : List Rg := rgG e.len e.alm fr t (tmA a l e (fr - moA e.len e.alm) (t - leA e.len e.alm))
theorem rgO_mem {n : Int} {al : List Al} {y : Tm} {x : Rg} : x ∈ rgO n al y ↔ ∃ k, k < al.length ∧ ∃ u, u < (al.getD k (0, false, 0, 0)).2.2.1.toNat + 1 ∧ x = rg1 n y k (al.getD k (0, false, 0, 0)) u := by
  unfold rgO rgT rgX
  simp only [List.mem_flatMap, List.mem_range, List.mem_map]
  constructor
  · rintro ⟨k, hk, u, hu, rfl⟩; exact ⟨k, hk, u, hu, rfl⟩
  · rintro ⟨k, hk, u, hu, rfl⟩; exact ⟨k, hk, u, hu, rfl⟩
theorem ouB_no {fr t : Int} {x : Rg} : (!ouB fr t x) = true ↔ fr ≤ x.1 ∧ x.1 < t := by
  unfold ouB
  rw [Bool.not_eq_true', decide_eq_false_iff_not]
  omega
/-- Is something a ring of an event? -/
def isRg (a : Int) (l : List (Int × Int)) (e : Evt) (fr t : Int) (x : Rg) : Prop := ∃ y, (isE e y.1 ∧ ∃ r, rea e y.1 = some r ∧ tim a l e (y.1, r) = some y) ∧ (∃ k, k < e.alm.length ∧ ∃ u, u < (e.alm.getD k (0, false, 0, 0)).2.2.1.toNat + 1 ∧ x = rg1 e.len y k (e.alm.getD k (0, false, 0, 0)) u) ∧ fr ≤ x.1 ∧ x.1 < t
theorem mul_le {u : Nat} {r b : Int} (h0 : 0 ≤ r) (h1 : u < r.toNat + 1) (h2 : 0 ≤ b) : 0 ≤ (u : Int) * b ∧ (u : Int) * b ≤ r * b :=
  ⟨Int.mul_nonneg (by omega) h2, Int.mul_le_mul_of_nonneg_right (by omega) h2⟩
theorem rg1_at {e : Evt} (h : evF e = 0) {y : Tm} {k : Nat} (hk : k < e.alm.length) {u : Nat} (hu : u < (e.alm.getD k (0, false, 0, 0)).2.2.1.toNat + 1) : leA e.len e.alm ≤ (rg1 e.len y k (e.alm.getD k (0, false, 0, 0)) u).1 - y.2.1 ∧ (rg1 e.len y k (e.alm.getD k (0, false, 0, 0)) u).1 - y.2.1 ≤ moA e.len e.alm := by
  have hm := alm_mem hk
  have q := (rea_in h).2.2 _ hm
  have ai := alF_in ((evF_alm h).2 _ hm)
  generalize e.alm.getD k (0, false, 0, 0) = X at hu q ai
  have m := mul_le (b := X.2.2.2) ai.2.1.1 hu ai.2.2.1.1
  unfold lst at q
  unfold rg1
  simp only
  omega
theorem rgL_mem {a : Int} {l : List (Int × Int)} {e : Evt} {fr t : Int} {x : Rg} (h : evF e = 0) (hz : Zo.zf a l = 0) : x ∈ rgL a l e fr t ↔ isRg a l e fr t x := by
  unfold rgL rgG isRg
  simp only [List.mem_flatMap, List.mem_filter]
  constructor
  · rintro ⟨y, hy, hx, hi⟩
    obtain ⟨y1, y2, _, _⟩ := (tmA_mem h hz).1 hy
    exact ⟨y, ⟨y1, y2⟩, rgO_mem.1 hx, ouB_no.1 hi⟩
  · rintro ⟨y, ⟨y1, y2⟩, ⟨k, hk, u, hu, rfl⟩, hi⟩
    have b := rg1_at h (y := y) hk hu
    refine ⟨y, (tmA_mem h hz).2 ⟨y1, y2, ?_, ?_⟩, rgO_mem.2 ⟨k, hk, u, hu, rfl⟩, ouB_no.2 hi⟩ <;> omega
/-- No two rings are the same. -/
theorem tmL_apart {a : Int} {l : List (Int × Int)} {e : Evt} {fr t : Int} (h : evF e = 0) (ho : okS fr t) : (tmL a l e fr t).Pairwise (fun x y => x.1 ≠ y.1) :=
  apart_perm (List.mergeSort_perm _ _).symm (tms_apart h ho)
theorem tmA_apart {a : Int} {l : List (Int × Int)} {e : Evt} {fr t : Int} (h : evF e = 0) : (tmA a l e fr t).Pairwise (fun x y => x.1 ≠ y.1) := by
  unfold tmA
  split
  · rename_i q; exact tmL_apart h (tmA_okS q)
  · exact List.Pairwise.nil
theorem rgO_apart (n : Int) (al : List Al) (y : Tm) : (rgO n al y).Pairwise (fun x z => x ≠ z) := by
  unfold rgO rgT
  rw [List.pairwise_flatMap]
  constructor
  · intro k _
    unfold rgX
    rw [List.pairwise_map]
    exact List.pairwise_lt_range.imp (fun {u v} q z => by
      have := congrArg (fun r : Rg => r.2.2.2) z
      simp [rg1] at this
      omega)
  · exact List.pairwise_lt_range.imp (fun {i j} q x hx z hz e => by
      unfold rgX at hx hz
      obtain ⟨u, _, rfl⟩ := List.mem_map.1 hx
      obtain ⟨v, _, rfl⟩ := List.mem_map.1 hz
      have := congrArg (fun r : Rg => r.2.2.1) e
      simp [rg1] at this
      omega)
theorem rgL_apart {a : Int} {l : List (Int × Int)} {e : Evt} {fr t : Int} (h : evF e = 0) : (rgL a l e fr t).Pairwise (fun x z => x ≠ z) := by
  unfold rgL rgG
  rw [List.pairwise_flatMap]
  refine ⟨fun y _ => (rgO_apart _ _ y).filter _, (tmA_apart h).imp (fun {y y'} q x hx z hz e => ?_)⟩
  obtain ⟨k, _, u, _, rfl⟩ := rgO_mem.1 (List.mem_filter.1 hx).1
  obtain ⟨k', _, u', _, rfl⟩ := rgO_mem.1 (List.mem_filter.1 hz).1
  have := congrArg (fun r : Rg => r.2.1) e
  simp [rg1] at this
  exact q this
theorem ltR_tot {x y : Rg} (h : ¬ ltR y x) (n : x ≠ y) : ltR x y := by
  obtain ⟨x1, x2, x3, x4⟩ := x
  obtain ⟨y1, y2, y3, y4⟩ := y
  unfold ltR at *
  simp only [ne_eq, Prod.mk.injEq] at n
  simp only at *
  omega
theorem rg_ext : ∀ {a b : List Rg}, a.Pairwise ltR → b.Pairwise ltR → (∀ x, x ∈ a ↔ x ∈ b) → a = b
  | [], [], _, _, _ => rfl
  | [], y :: b, _, _, h => absurd ((h y).2 List.mem_cons_self) (by simp)
  | x :: a, [], _, _, h => absurd ((h x).1 List.mem_cons_self) (by simp)
  | x :: a, y :: b, ha, hb, h => by
    obtain ⟨a1, a2⟩ := List.pairwise_cons.1 ha
    obtain ⟨b1, b2⟩ := List.pairwise_cons.1 hb
    have e : x = y := by
      rcases List.mem_cons.1 ((h x).1 List.mem_cons_self) with q | q
      · exact q
      · rcases List.mem_cons.1 ((h y).2 List.mem_cons_self) with q2 | q2
        · exact q2.symm
        · have l1 := b1 x q
          have l2 := a1 y q2
          unfold ltR at l1 l2
          omega
    subst e
    congr 1
    refine rg_ext a2 b2 (fun z => ⟨fun q => ?_, fun q => ?_⟩)
    · rcases List.mem_cons.1 ((h z).1 (List.mem_cons_of_mem _ q)) with e | e
      · subst e; have := a1 z q; unfold ltR at this; omega
      · exact e
    · rcases List.mem_cons.1 ((h z).2 (List.mem_cons_of_mem _ q)) with e | e
      · subst e; have := b1 z q; unfold ltR at this; omega
      · exact e
/-- The rings, in order. -/
def rgS (a : Int) (l : List (Int × Int)) (e : Evt) (fr t : Int) : List Rg := (rgL a l e fr t).mergeSort (fun x y => decide (¬ ltR y x))
theorem apart_permR {a b : List Rg} (h : a.Perm b) (hp : a.Pairwise (fun x z => x ≠ z)) : b.Pairwise (fun x z => x ≠ z) := h.pairwise_iff (fun q => fun z => q z.symm) |>.1 hp
theorem sorted_lt {b : List Rg} (h1 : b.Pairwise (fun x y => ¬ ltR y x)) (h2 : b.Pairwise (fun x y => x ≠ y)) : b.Pairwise ltR := (h1.and h2).imp (fun q => ltR_tot q.1 q.2)
theorem rgS_rise {a : Int} {l : List (Int × Int)} {e : Evt} {fr t : Int} (h : evF e = 0) : (rgS a l e fr t).Pairwise ltR := by
  refine sorted_lt ?_ (apart_permR (List.mergeSort_perm _ _).symm (rgL_apart h))
  have := List.pairwise_mergeSort (le := fun x y : Rg => decide (¬ ltR y x)) (fun x y z q1 q2 => by unfold ltR at *; simp at *; omega) (fun x y => by unfold ltR; simp; omega) (rgL a l e fr t)
  exact this.imp (fun q => by simpa using q)
theorem rgS_mem {a : Int} {l : List (Int × Int)} {e : Evt} {fr t : Int} {x : Rg} (h : evF e = 0) (hz : Zo.zf a l = 0) : x ∈ rgS a l e fr t ↔ isRg a l e fr t x := by
  unfold rgS
  rw [List.mem_mergeSort, rgL_mem h hz]
theorem rgS_len (a : Int) (l : List (Int × Int)) (e : Evt) (fr t : Int) : (rgS a l e fr t).length = (rgL a l e fr t).length := by unfold rgS; rw [List.length_mergeSort]
/-- What is sorted is that list. -/
theorem rgS_of {a : Int} {l : List (Int × Int)} {e : Evt} {fr t : Int} (h : evF e = 0) {b : List Rg} (hp : (rgL a l e fr t).Perm b) (hs : b.Pairwise (fun x y => ¬ ltR y x)) : b = rgS a l e fr t := by
  refine rg_ext (sorted_lt hs (apart_permR hp (rgL_apart h))) (rgS_rise h) (fun x => ?_)
  unfold rgS
  rw [List.mem_mergeSort]
  exact hp.mem_iff.symm
/-- What Rings tells. -/
def raF (a : Int) (l : List (Int × Int)) (e : Evt) (fr t : Int) : Int := if ¬ tcF a l e fr t = 0 then tcF a l e fr t else if 400 < (rgS a l e fr t).length then 4 else 0
def raL (a : Int) (l : List (Int × Int)) (e : Evt) (fr t : Int) : List Rg := if raF a l e fr t = 0 then rgS a l e fr t else []
/-- How long the lists can be. -/
theorem tmA_len {a : Int} {l : List (Int × Int)} {e : Evt} {fr t : Int} (h : evF e = 0) : (tmA a l e fr t).length ≤ 200200 := by
  unfold tmA
  split
  · unfold tmL
    rw [List.length_mergeSort]
    unfold tms
    exact Nat.le_trans (List.length_filterMap_le _ _) (mom_len h)
  · simp
theorem rgG_len {e : Evt} (h : evF e = 0) {fr t : Int} : ∀ (ys : List Tm), (rgG e.len e.alm fr t ys).length ≤ 24 * ys.length
  | [] => by simp [rgG]
  | y :: ys => by
    have ih := rgG_len h (fr := fr) (t := t) ys
    unfold rgG at *
    rw [List.flatMap_cons, List.length_append, List.length_cons]
    have a1 := List.length_filter_le (fun x => !ouB fr t x) (rgO e.len e.alm y)
    have a2 := rgT_len (n := e.len) (y := y) (evF_alm h).2 (k := e.alm.length) (Nat.le_refl _)
    have a3 := (evF_alm h).1
    have a4 : (rgO e.len e.alm y).length = (rgT e.len e.alm y e.alm.length).length := rfl
    omega
theorem rgG_snoc (n : Int) (al : List Al) (fr t : Int) (ys : List Tm) (k : Nat) (h : k < ys.length) : rgG n al fr t (ys.take (k + 1)) = rgG n al fr t (ys.take k) ++ (rgO n al (ys.getD k (0, 0, 0))).filter (fun x => !ouB fr t x) := by
  unfold rgG
  rw [List.take_succ_eq_append_getElem h, List.flatMap_append, List.getD_eq_getElem?_getD, List.getElem?_eq_getElem h]
  simp
end Go.Proofs.YthdohcjingfpoaaGreatDoor
namespace Go.Proofs.YthdohcjingfpoaaGreatDoor
open Go.RowKit Cal Txt

/-- What is told: rings and a fault. -/
def RaA (nm : ByteArray) (w : World) (l : List Rg) (f : Int) (x : Ending) (w' : World) : Prop := ∃ u, x = .returned (.tuple #[u, fault f]) ∧ Below w.heap.size w w' ∧ w'.ownsRow w.heap.size 45 5 u l.length (l.flatMap (encR nm))
theorem tm_mem4 {l : List Tm} {k : Nat} (h : k < l.length) : l.getD k (0, 0, 0) ∈ l := by rw [List.getD_eq_getElem?_getD, List.getElem?_eq_getElem h]; exact List.getElem_mem h
theorem own_form {nm : ByteArray} {w : World} {n0 n : Nat} {v : Value} {l : List Rg} (h : w.ownsRow n0 45 5 v n (l.flatMap (encR nm))) : ∃ a cap, v = .slice a l.length cap := (own_rowK (enc := encR nm) (k := 5) (fun _ => rfl) (by decide) h).form
theorem own_apt {nm : ByteArray} {w W : World} {n0 n g : Nat} {v : Value} {l : List Rg} (h : w.ownsRow n0 45 5 v n (l.flatMap (encR nm))) (q : Apt g w W) (hg : w.heap.size ≤ g ∨ v.ownBlock ≠ some g) : W.ownsRow n0 45 5 v n (l.flatMap (encR nm)) := by
  refine ⟨h.1, ?_⟩
  rcases h.2 with z | ⟨b, cap, cur, hv, hb, hc, r⟩
  · exact Or.inl z
  · have hlt : b < w.heap.size := by
      rcases Nat.lt_or_ge b w.heap.size with k | k
      · exact k
      · rw [Array.getElem?_eq_none k] at hc; cases hc
    refine Or.inr ⟨b, cap, cur, hv, hb, (q.block b hlt ?_).trans hc, r⟩
    intro e
    subst e
    rcases hg with hg | hg
    · omega
    · rw [hv] at hg; exact hg rfl
theorem app5_any {nm : ByteArray} {w : World} {n0 : Nat} {v vo : Value} {l mo : List Rg} (h : w.ownsRow n0 45 5 v l.length (l.flatMap (encR nm))) (hm : RowK (encR nm) w vo mo) (hn : n0 ≤ w.heap.size) (hl : l.length + mo.length ≤ 1000000000) :
    ∃ v' w', (∀ ty, (Builtin.append_ #[41, 41] ty #[v, vo]).run Tryz.prog w = .ok v' w') ∧ w'.ownsRow n0 45 5 v' (l ++ mo).length ((l ++ mo).flatMap (encR nm)) ∧ Below n0 w w' :=
  appK_any (enc := encR nm) (k := 5) (fun _ => rfl) (by decide) (fun x u hu => by simp [encR] at hu; rcases hu with rfl | rfl | rfl | rfl | rfl <;> rfl) Tryz.underlying41 info_rg rfl (by decide) h hm hn hl
/-- The fault of the rings of a stretch that is right: they are too many. -/
def waF (a : Int) (l : List (Int × Int)) (e : Evt) (fr t : Int) : Int := if 400 < (rgS a l e fr t).length then 4 else 0
/-- The rings that are told of it. -/
def waL (a : Int) (l : List (Int × Int)) (e : Evt) (fr t : Int) : List Rg := if waF a l e fr t = 0 then rgS a l e fr t else []
set_option maxRecDepth 100000 in
set_option maxHeartbeats 8000000 in
theorem alwin_any (a : Int) (l : List (Int × Int)) (v : Value) (e : Evt) (s : Evs) (fr t : Int) (w : World) (hz : ZoneIn w v a l) (hv : EvB w e s) (hT : Tab w) (ez : ezF a l e = 0) (sb1 : 1 ≤ fr) (sb2 : fr ≤ 157785120) (sb3 : 1 ≤ t) (sb4 : t ≤ 157785120) :
    Calls Tryz.prog 54 #[v, .agg (ecells e s), .int .i64 fr, .int .i64 t] w (RaA e.name w (waL a l e fr t) (waF a l e fr t)) := by
  have HZ := Lib.hid (fun W (q : Below w.heap.size w W) => hz.on q)
  obtain ⟨sa, sc, rfl⟩ := hz.form
  obtain ⟨W2, hW2, b2, z2, Z2, R2⟩ := two_boxes w a l sa sc e s
  have b3 : Below W2.heap.size W2 (W2.alloc (.cells #[.int .i64 fr] 3)) := (Below.refl _ _).alloc (Nat.le_refl _) _
  have z3 : (W2.alloc (.cells #[.int .i64 fr] 3)).heap.size = w.heap.size + 3 := by rw [World.size_alloc, z2]
  have f3 : (W2.alloc (.cells #[.int .i64 fr] 3)).cell? ⟨w.heap.size + 2, 0, none⟩ = some (.int .i64 fr) := by rw [← z2]; simp
  have b4 : Below (W2.alloc (.cells #[.int .i64 fr] 3)).heap.size (W2.alloc (.cells #[.int .i64 fr] 3)) ((W2.alloc (.cells #[.int .i64 fr] 3)).alloc (.cells #[.int .i64 t] 3)) := (Below.refl _ _).alloc (Nat.le_refl _) _
  have t4 : ((W2.alloc (.cells #[.int .i64 fr] 3)).alloc (.cells #[.int .i64 t] 3)).cell? ⟨w.heap.size + 3, 0, none⟩ = some (.int .i64 t) := by rw [← z3]; simp
  have f4 := (b4.cell (p := ⟨w.heap.size + 2, 0, none⟩) (ecell_in f3)).trans f3
  have b24 := b3.trans (b4.mono b3.size)
  obtain ⟨W0, hW0⟩ : ∃ W0, W0 = (W2.alloc (.cells #[.int .i64 fr] 3)).alloc (.cells #[.int .i64 t] 3) := ⟨_, rfl⟩
  rw [← hW0] at t4 f4 b24
  have B0 := b2.trans (b24.mono b2.size)
  have hW : W0 = (((w.alloc (.cells #[.int .i64 a, .slice sa l.length sc] 24)).alloc (.cells (ecells e s) 40)).alloc (.cells #[.int .i64 fr] 3)).alloc (.cells #[.int .i64 t] 3) := by rw [hW0, hW2]
  have HW := Lib.hid hW
  have HB := Lib.hid B0
  have HE := Lib.hid (R2.on b24)
  have HX := Lib.hid (Z2.on b24)
  have HFT := Lib.hid (And.intro f4 t4)
  have HV := Lib.hid (fun W (q : Below w.heap.size w W) => hv.on q)
  have HT := Lib.hid (fun W (q : Below w.heap.size w W) => hT.below q)
  obtain ⟨he, hzz⟩ := ez_good ez
  have G2 : Hid (waF a l e fr t = if 400 < (rgS a l e fr t).length then 4 else 0) := Lib.hid rfl
  have RL0 : Hid (¬ waF a l e fr t = 0 → waL a l e fr t = []) := Lib.hid (fun q => if_neg q)
  have RL1 : Hid (waF a l e fr t = 0 → waL a l e fr t = rgS a l e fr t) := Lib.hid (fun q => if_pos q)
  generalize waL a l e fr t = L at RL0 RL1 ⊢
  generalize waF a l e fr t = F at G2 RL0 RL1 ⊢
  have EZ := Lib.hid ez
  have HEV := Lib.hid he
  have K2 := Lib.hid (reach_any e s W0 (HV.out _ B0) he)
  have ri := rea_in he
  obtain ⟨⟨ri1, ri2⟩, ⟨ri3, ri4⟩, _⟩ := ri
  have TL : Hid (taL a l e (fr - moA e.len e.alm) (t - leA e.len e.alm) = tmA a l e (fr - moA e.len e.alm) (t - leA e.len e.alm)) := Lib.hid (if_pos ez)
  have GS : Hid (rgL a l e fr t = rgG e.len e.alm fr t (tmA a l e (fr - moA e.len e.alm) (t - leA e.len e.alm))) := Lib.hid rfl
  have SO := Lib.hid (fun b => rgS_of (a := a) (l := l) (fr := fr) (t := t) he (b := b))
  have SL := Lib.hid (rgS_len a l e fr t)
  have AL := tmA_len (a := a) (l := l) (fr := fr - moA e.len e.alm) (t := t - leA e.len e.alm) he
  have YT := Lib.hid (fun y (q : y ∈ tmA a l e (fr - moA e.len e.alm) (t - leA e.len e.alm)) => isTm_time ((tmA_mem he hzz).1 q))
  have KA := Lib.hid (fun W (q : Below w.heap.size w W) => tAll_any a l _ e s (fr - moA e.len e.alm) (t - leA e.len e.alm) W (HZ.out _ q) (HV.out _ q) (HT.out _ q))
  rw [ez, TL.out] at KA
  have GL := Lib.hid (fun ys => rgG_len he (fr := fr) (t := t) ys)
  generalize tmA a l e (fr - moA e.len e.alm) (t - leA e.len e.alm) = YS at GS AL YT KA
  generalize rgL a l e fr t = RL at GS SO SL
  generalize rgS a l e fr t = RS at SO SL G2 RL1
  generalize moA e.len e.alm = MO at K2 ri3 ri4 KA
  generalize leA e.len e.alm = LE at K2 ri1 ri2 KA
  clear ez he hzz TL
  clear hz hv hT hW2 b2 z2 Z2 R2 b3 z3 f3 b4 t4 f4 b24 hW0 B0 hW W2
  go_enter Tryz.func54, Tryz.ntmps54
  go_upto_region 1 with fail
  rw [← HW.out]
  clear HW
  go_wp2_with (refine ev_load (by rfl) (.tmp 5) (by rfl) (w.heap.size + 1) e s (by rfl) HE.out ?_)
  refine K2.out.mono ?_
  rintro y w2 ⟨rfl, hb⟩
  have B2 := Lib.hid (HB.out.trans (hb.mono HB.out.size))
  have E2 := Lib.hid (HE.out.on hb)
  have X2 := Lib.hid (HX.out.on hb)
  have F2 := Lib.hid (And.intro ((hb.cell (p := ⟨w.heap.size + 2, 0, none⟩) (ecell_in HFT.out.1)).trans HFT.out.1) ((hb.cell (p := ⟨w.heap.size + 3, 0, none⟩) (ecell_in HFT.out.2)).trans HFT.out.2))
  clear hb K2 HB HE HX HFT
  have K3 := Lib.hid (KA.out _ B2.out)
  obtain ⟨z0, z1⟩ := X2.out
  have zl := ecell_in z0
  obtain ⟨ff, tt⟩ := F2.out
  have fl := ecell_in ff
  have tl := ecell_in tt
  go_wp2_with (refine ev_load (by rfl) (.tmp 5) (by rfl) (w.heap.size + 1) e s (by rfl) E2.out ?_)
  clear z0 z1 zl ff tt fl tl
  refine K3.out.mono ?_
  rintro y w3 ⟨u, rfl, ht, hb, _⟩
  rw [efault_0]
  have B3 := Lib.hid (B2.out.trans (hb.mono B2.out.size))
  have E3 := Lib.hid (E2.out.on hb)
  have F3 := Lib.hid (And.intro ((hb.cell (p := ⟨w.heap.size + 2, 0, none⟩) (ecell_in F2.out.1)).trans F2.out.1) ((hb.cell (p := ⟨w.heap.size + 3, 0, none⟩) (ecell_in F2.out.2)).trans F2.out.2))
  obtain ⟨la, lc, rfl, hc⟩ := ht
  have HC := Lib.hid hc
  have S3 := Lib.hid B3.out.size
  clear hb hc K3 KA B2 E2 X2 F2
  go_wp2_with fail
  go_loopw [15, 17, 41] (fun lv _ iv wr => ∃ k : Nat, k ≤ YS.length ∧ iv = .int .i64 k ∧ wr.ownsRow w3.heap.size 45 5 lv (rgG e.len e.alm fr t (YS.take k)).length ((rgG e.len e.alm fr t (YS.take k)).flatMap (encR e.name)) ∧ Below w3.heap.size w3 wr) (fun _ _ iv _ => YS.length - (intOf iv).toNat)
  case atStart => exact ⟨0, Nat.zero_le _, rfl, World.ownsRow_nil _ _ _ _, Below.refl _ _⟩
  case round =>
    obtain ⟨k, hk, rfl, hown, hB⟩ := hrel
    have HBr := Lib.hid hB
    have HO := Lib.hid hown
    have gl := GL.out (YS.take k)
    rw [List.length_take] at gl
    by_cases hlt : k < YS.length
    · rcases HC.out with hc | ⟨lb, lo, rfl, hc⟩
      · rw [hc] at hlt; simp at hlt
      obtain ⟨k0, k1, k2⟩ := hc k hlt
      have yt := YT.out _ (tm_mem4 hlt)
      have GK := Lib.hid (rgG_snoc e.len e.alm fr t YS k hlt)
      have gl2 := GL.out (YS.take (k + 1))
      rw [List.length_take] at gl2
      generalize YS.getD k (0, 0, 0) = Y at k0 k1 k2 yt GK
      have q0 := (hB.cell (p := ⟨lb, lo + k * 3, none⟩) (ecell_in k0)).trans k0
      have q1 := (hB.cell (p := ⟨lb, lo + k * 3 + 1, none⟩) (ecell_in k0)).trans k1
      have q2 := (hB.cell (p := ⟨lb, lo + k * 3 + 2, none⟩) (ecell_in k0)).trans k2
      have lb2 := ecell_in q0
      have b3 : Below wr.heap.size wr (wr.alloc (.cells #[.int .i64 Y.1, .int .i64 Y.2.1, .int .i64 Y.2.2] 145)) := (Below.refl _ _).alloc (Nat.le_refl _) _
      have T3 : (wr.alloc (.cells #[.int .i64 Y.1, .int .i64 Y.2.1, .int .i64 Y.2.2] 145)).cell? ⟨wr.heap.size, 0, none⟩ = some (.int .i64 Y.1) ∧ (wr.alloc (.cells #[.int .i64 Y.1, .int .i64 Y.2.1, .int .i64 Y.2.2] 145)).cell? ⟨wr.heap.size, 1, none⟩ = some (.int .i64 Y.2.1) ∧ (wr.alloc (.cells #[.int .i64 Y.1, .int .i64 Y.2.1, .int .i64 Y.2.2] 145)).cell? ⟨wr.heap.size, 2, none⟩ = some (.int .i64 Y.2.2) := by refine ⟨?_, ?_, ?_⟩ <;> simp
      obtain ⟨W3, hW3⟩ : ∃ W3, W3 = wr.alloc (.cells #[.int .i64 Y.1, .int .i64 Y.2.1, .int .i64 Y.2.2] 145) := ⟨_, rfl⟩
      rw [← hW3] at b3 T3
      have HW3 := Lib.hid hW3
      have BW := Lib.hid (HBr.out.trans (b3.mono HBr.out.size))
      have EW := Lib.hid (E3.out.on BW.out)
      have HO3 := Lib.hid (ow_below hown b3)
      have bw := B3.out.trans (BW.out.mono B3.out.size)
      have KR := Lib.hid (ringsOf_any e s Y W3 (HV.out _ bw) HEV.out (by omega) (by omega))
      have HT3 := Lib.hid T3
      clear hc k0 k1 k2 hB b3 T3 hW3 hown HO bw
      go_upto_region 10 with fail
      rw [← HW3.out]
      clear HW3 q0 q1 q2 lb2
      obtain ⟨t0, t1, t2⟩ := HT3.out
      have tl := ecell_in t0
      go_wp2_with (refine ev_load (by rfl) (.tmp 5) (by rfl) (w.heap.size + 1) e s (by rfl) EW.out ?_)
      clear t0 t1 t2 tl
      refine KR.out.mono ?_
      rintro y w5 ⟨u5, rfl, ow5, hb⟩
      have B5 := Lib.hid (BW.out.trans (hb.mono BW.out.size))
      have HO5 := Lib.hid (ow_below HO3.out hb)
      have S5 := Lib.hid BW.out.size
      have GN : Hid ((rgG e.len e.alm fr t (YS.take (k + 1))).length ≤ 24 * min (k + 1) YS.length) := Lib.hid gl2
      have RO := rgT_len (n := e.len) (y := Y) (evF_alm HEV.out).2 (k := e.alm.length) (Nat.le_refl _)
      have ro2 : (rgO e.len e.alm Y).length ≤ 100 := by
        have q1 := (evF_alm HEV.out).1
        have q2 : (rgO e.len e.alm Y).length = (rgT e.len e.alm Y e.alm.length).length := rfl
        omega
      have FL := Lib.hid (List.length_filter_le (fun x => !ouB fr t x) (rgO e.len e.alm Y))
      have F5 := Lib.hid (And.intro ((B5.out.cell (p := ⟨w.heap.size + 2, 0, none⟩) (ecell_in F3.out.1)).trans F3.out.1) ((B5.out.cell (p := ⟨w.heap.size + 3, 0, none⟩) (ecell_in F3.out.2)).trans F3.out.2))
      generalize rgG e.len e.alm fr t (YS.take k) = RT at HO3 HO5 GK gl
      generalize rgO e.len e.alm Y = OO at ow5 GK ro2 FL
      have fl3 := ecell_in F3.out.2
      clear gl2 RO KR EW
      rcases Nat.eq_zero_or_pos OO.length with l0 | lp
      · obtain ⟨a5, c5, e5⟩ := own_form ow5
        have o0 : OO = [] := List.eq_nil_of_length_eq_zero l0
        rw [l0] at e5
        subst e5
        have N : Hid (rgG e.len e.alm fr t (YS.take (k + 1)) = RT) := Lib.hid (by rw [GK.out, o0]; simp)
        obtain ⟨v7, w7, ap, o7, b7⟩ := app5_any (mo := []) HO5.out ⟨a5, c5, rfl, Or.inl rfl⟩ B5.out.size (by simp; omega)
        rw [List.append_nil] at o7
        have AP := Lib.hid ap
        have O7 := Lib.hid o7
        have B7 := Lib.hid (B5.out.trans b7)
        clear ap o7 b7 ow5 hb o0 l0 HO3 HO5
        go_wp2_with (first | (go_at_call 70; refine (delR_none _ _ _ _ _).mono ?_; rintro y w6 ⟨rfl, hw⟩; replace hw := hw.symm; subst hw) | (at_builtin; refine wpList_app rfl _ _ 41 rfl _ _ _ _ rfl rfl AP.out ?_))
        go_roundw
        case rel => exact ⟨k + 1, by omega, by go_num, by rw [N.out]; exact O7.out, B7.out⟩
        case measure => simp [intOf]; omega
      · rcases own_hol5 ow5 with ⟨_, o0⟩ | ⟨g, cap, rfl, hg, hgl, hcap, hh⟩
        · rw [o0] at lp; simp at lp
        have CA : ClR e.name g w5 (.pointer (some ⟨w.heap.size + 2, 0, none⟩)) (.pointer (some ⟨w.heap.size + 3, 0, none⟩)) (ouB fr t) := fun c W qa =>
          isOut_any e.name fr t c (w.heap.size + 2) (w.heap.size + 3) W ((qa.cell (p := ⟨w.heap.size + 2, 0, none⟩) (ecell_in F5.out.1) (by show w.heap.size + 2 ≠ g; have := S5.out; omega)).trans F5.out.1) ((qa.cell (p := ⟨w.heap.size + 3, 0, none⟩) (ecell_in F5.out.2) (by show w.heap.size + 3 ≠ g; have := S5.out; omega)).trans F5.out.2)
        have KD := Lib.hid (delR e.name _ _ (ouB fr t) OO g 0 cap w5 CA hh lp hcap (by omega))
        have G3 : Hid (w3.heap.size ≤ g) := Lib.hid (by have := S5.out; omega)
        have BL := Lib.hid (fun k q => HO3.out.lt k q)
        have HG := Lib.hid hg
        clear CA hh ow5 hb hg hgl hcap
        go_wp2_with fail
        refine KD.out.mono ?_
        rintro y w6 ⟨rfl, hh6, ha6⟩
        have B6 := B5.out.trans (ha6.below (n0 := w3.heap.size) G3.out B5.out.size)
        have O6 := own_apt HO5.out ha6 (Or.inr (fun z => by have := (BL.out g z).2; have := HG.out; omega))
        have fl6 := FL.out
        have gl6 := gl
        obtain ⟨v7, w7, ap, o7, b7⟩ := app5_any O6 (hh6.rowK (cap := cap)) B6.size (by omega)
        rw [← GK.out] at o7
        have AP := Lib.hid ap
        have O7 := Lib.hid o7
        have B7 := Lib.hid (B6.trans b7)
        clear ap o7 b7 B6 O6 hh6 ha6 KD HO3 HO5 BL HG fl6 gl6
        go_wp2_with (at_builtin; refine wpList_app rfl _ _ 41 rfl _ _ _ _ rfl rfl AP.out ?_)
        go_roundw
        case rel => exact ⟨k + 1, by omega, by go_num, O7.out, B7.out⟩
        case measure => simp [intOf]; omega
    · have ek : k = YS.length := by omega
      have O9 := HO.out
      rw [ek, List.take_length, ← GS.out] at O9
      rw [ek, List.take_length, ← GS.out] at gl
      obtain ⟨a9, c9, e9⟩ := own_form O9
      have HO9 := Lib.hid O9
      have B9 := Lib.hid (B3.out.trans (hB.mono B3.out.size))
      have SZ9 := Lib.hid hB.size
      have sl := SL.out
      clear O9 HO hown ek hB
      subst e9
      by_cases hq : 400 < RL.length
      · have N : Hid (F = 4 ∧ L = []) := Lib.hid (by
          have nf := G2.out
          rw [if_pos (by omega)] at nf
          exact ⟨nf, RL0.out (by rw [nf]; decide)⟩)
        clear G2 RL0 RL1 sl
        go_wp2
        go_ret2
        exact ⟨.slice none 0 0, by rw [N.out.1]; rfl, B9.out, by rw [N.out.2]; exact World.ownsRow_nil _ _ _ _⟩
      · have N : Hid (F = 0 ∧ L = RS) := Lib.hid (by
          have nf := G2.out
          rw [if_neg (by omega)] at nf
          exact ⟨nf, RL1.out nf⟩)
        have KS := Lib.hid (sortR_any e.name RL w3.heap.size _ wr HO9.out SZ9.out (by omega))
        clear G2 RL0 RL1 sl gl
        go_wp2_with fail
        refine KS.out.mono ?_
        rintro y w9 ⟨rfl, b, hp, hs, hb, ow⟩
        have eb := SO.out b hp hs
        have ow2 : w9.ownsRow w3.heap.size 45 5 (.slice a9 RL.length c9) b.length (b.flatMap (encR e.name)) := by rw [← hp.length_eq]; exact ow
        subst eb
        have ZZ := Lib.hid (And.intro (B9.out.trans (hb.mono S3.out)) (own_mono ow2 S3.out))
        clear hp hs hb ow ow2 KS SO
        go_wp2
        go_ret2
        exact ⟨_, by rw [N.out.1]; rfl, ZZ.out.1, by rw [N.out.2]; exact ZZ.out.2⟩
end Go.Proofs.YthdohcjingfpoaaGreatDoor
