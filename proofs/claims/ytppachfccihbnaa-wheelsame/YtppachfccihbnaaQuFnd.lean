/-
  What is proved here: what slices.BinarySearchFunc answers at a rising row of rings, by alarm.Order (a contract over the translation).
-/
import Derived.Test.YtppachfccihbnaaQuIns2
import Derived.Shelf.Abstract
import Derived.BigQuiet
import Derived.Lib.QuietBelow
namespace Go.Proofs.Ytppachfccihbnaa.Qu
open Go.RowKit

/-- Rings that a slice reads as. -/
def Rd (w : World) (v : Value) (M : List Rq) : Prop := ∃ a cap, v = .slice a M.length cap ∧ (M = [] ∨ ∃ b off, a = some ⟨b, off, none⟩ ∧ ∀ i, i < M.length → ∀ c, c < 5 → w.cell? ⟨b, off + i * 5 + c, none⟩ = (encQ (M.getD i zq))[c]?)
theorem Ow.rd {w : World} {n0 : Nat} {v : Value} {M : List Rq} (h : Ow w n0 v M) : Rd w v M := by
  rcases h.open with ⟨rfl, rfl⟩ | ⟨g, cap, L, rfl, _, hL, hnc, _, hl, ht⟩
  · exact ⟨none, 0, rfl, Or.inl rfl⟩
  · refine ⟨_, cap, rfl, Or.inr ⟨g, 0, rfl, fun i hi c hc => ?_⟩⟩
    rw [← flatQ_at M i c hi hc, ← ht, List.getElem?_take, if_pos (by omega)]
    have h5 : i * 5 + c < L.length := by rw [hl]; omega
    rw [show 0 + i * 5 + c = i * 5 + c by omega, hL.cell (List.getElem?_eq_getElem h5), List.getElem?_eq_getElem h5]
theorem Rd.on {w w' : World} {v : Value} {M : List Rq} (h : Rd w v M) (q : Below w.heap.size w w') : Rd w' v M := by
  obtain ⟨a, cap, e, hc⟩ := h
  refine ⟨a, cap, e, ?_⟩
  rcases hc with hc | ⟨b, off, ea, hc⟩
  · exact Or.inl hc
  · refine Or.inr ⟨b, off, ea, fun i hi c h5 => ?_⟩
    have k0 := hc i hi c h5
    have hs : (encQ (M.getD i zq))[c]? = some (encQ (M.getD i zq))[c] := List.getElem?_eq_getElem (by rw [encQ_len]; exact h5)
    rw [hs] at k0 ⊢
    exact (q.cell (p := ⟨b, off + i * 5 + c, none⟩) (cell_in k0)).trans k0
/-- The five cells of a ring that lies somewhere. -/
def At5 (W : World) (b o : Nat) (x : Rq) : Prop := W.cell? ⟨b, o, none⟩ = some (.int .i64 x.1) ∧ W.cell? ⟨b, o + 1, none⟩ = some (.string x.2.1) ∧ W.cell? ⟨b, o + 2, none⟩ = some (.int .i64 x.2.2.1) ∧ W.cell? ⟨b, o + 3, none⟩ = some (.int .i64 x.2.2.2.1) ∧ W.cell? ⟨b, o + 4, none⟩ = some (.int .i64 x.2.2.2.2)
theorem Rd.at {w : World} {b off cap : Nat} {M : List Rq} (h : Rd w (.slice (some ⟨b, off, none⟩) M.length cap) M) {i : Nat} (hi : i < M.length) : At5 w b (off + i * 5) (M.getD i zq) := by
  obtain ⟨a, cap', e, hc⟩ := h
  injection e with e1 _ _
  rcases hc with hc | ⟨b', off', ea, hc⟩
  · rw [hc] at hi; simp at hi
  · rw [ea] at e1
    injection e1 with e1
    injection e1 with e1 e2
    subst e1; subst e2
    exact ⟨hc i hi 0 (by omega), hc i hi 1 (by omega), hc i hi 2 (by omega), hc i hi 3 (by omega), hc i hi 4 (by omega)⟩
theorem At5.lt {W : World} {b o : Nat} {x : Rq} (h : At5 W b o x) : b < W.heap.size := cell_in h.1
theorem At5.on {W W' : World} {b o : Nat} {x : Rq} (h : At5 W b o x) (q : Below W.heap.size W W') : At5 W' b o x :=
  ⟨(q.cell (p := ⟨b, o, none⟩) h.lt).trans h.1, (q.cell (p := ⟨b, o + 1, none⟩) h.lt).trans h.2.1, (q.cell (p := ⟨b, o + 2, none⟩) h.lt).trans h.2.2.1, (q.cell (p := ⟨b, o + 3, none⟩) h.lt).trans h.2.2.2.1, (q.cell (p := ⟨b, o + 4, none⟩) h.lt).trans h.2.2.2.2⟩
/-- Is it there? -/
def hasQ (M : List Rq) (r : Rq) : Bool := M.any (fun x => decide (oc x r = 0))
theorem hasQ_iff {M : List Rq} {r : Rq} : hasQ M r = true ↔ r ∈ M := by
  unfold hasQ
  rw [List.any_eq_true]
  constructor
  · rintro ⟨x, hx, h⟩
    rw [← (oc_cm.eq x r).1 (of_decide_eq_true h)]
    exact hx
  · intro h
    exact ⟨r, h, decide_eq_true (oc_self r)⟩
theorem hasQ_not {M : List Rq} {r : Rq} : hasQ M r = false ↔ r ∉ M := by
  rw [← hasQ_iff]; simp
/-- It is there, and its place. -/
def FndA (M : List Rq) (r : Rq) (w : World) (e : Ending) (w' : World) : Prop := ∃ p : Nat, Fnd M r p ∧ e = .returned (.tuple #[.int .i64 p, .bool (hasQ M r)]) ∧ Below w.heap.size w w'
set_option maxHeartbeats 4000000 in
set_option maxRecDepth 1000000 in
theorem bsearch_any (M : List Rq) (r : Rq) (v : Value) (w : World) (ho : Rd w v M) (hM : Rs M) (hl : M.length ≤ 1000000) :
    Calls Try.prog 32 #[v, agQ r, .func (.func 19) #[] #[]] w (FndA M r w) := by
  obtain ⟨a, cap, rfl, hc⟩ := ho
  obtain ⟨n, hn⟩ : ∃ n, n = M.length := ⟨_, rfl⟩
  have eg : ∀ args w, (callFunc 19 args).run Try.prog w = .ok (.enter 19 args) w := fun _ _ => enters_of Try.func19 (by kernel_rfl) rfl _ _
  have HC : Hid (M = [] ∨ ∃ b off, a = some ⟨b, off, none⟩ ∧ ∀ i, i < n → At5 w b (off + i * 5) (M.getD i zq)) := Lib.hid (by
    rcases hc with h | ⟨b, off, rfl, h⟩
    · exact Or.inl h
    · exact Or.inr ⟨b, off, rfl, fun i hi => Rd.at (cap := cap) ⟨_, cap, rfl, Or.inr ⟨b, off, rfl, h⟩⟩ (by omega)⟩)
  have TH : Hid (∀ p, Fnd M r p → (r ∈ M ↔ p < M.length ∧ oc (M.getD p zq) r = 0)) := Lib.hid (fun p h => h.there hM)
  have MO : Hid (∀ i j, i ≤ j → j < n → oc (M.getD j zq) r < 0 → oc (M.getD i zq) r < 0) := Lib.hid (fun i j hij hj h => by
    rcases (by omega : i = j ∨ i < j) with q | q
    · rw [q]; exact h
    · exact oc_cm.tr _ _ _ (rs_at hM q (by omega)) h)
  obtain ⟨B, hB⟩ : ∃ B, B = hasQ M r := ⟨_, rfl⟩
  have KB := Lib.hid hB
  have KN := Lib.hid hn
  have FI : Hid (∀ p : Nat, Fnd M r p → ∀ x, x = (p : Int) → ∀ W, Below w.heap.size w W → ∀ bb, bb = B → FndA M r w (.returned (.tuple #[.int .i64 x, .bool bb])) W) := Lib.hid (fun p h x hx W q bb hb => ⟨p, h, by rw [hx, hb, hB], q⟩)
  obtain ⟨W0, hW0⟩ : ∃ W0, W0 = w.alloc (.cells #[.int .i64 r.1, .string r.2.1, .int .i64 r.2.2.1, .int .i64 r.2.2.2.1, .int .i64 r.2.2.2.2] 31) := ⟨_, rfl⟩
  have b0 : Below w.heap.size w W0 := by rw [hW0]; exact (Below.refl _ _).alloc (Nat.le_refl _) _
  have x0 : QBx W0 w.heap.size r := by rw [hW0]; exact QBx.new w r _
  have HX : Hid (∀ X, Below W0.heap.size W0 X → QBx X w.heap.size r ∧ Below w.heap.size w X ∧ (M = [] ∨ ∃ b off, a = some ⟨b, off, none⟩ ∧ ∀ i, i < n → At5 X b (off + i * 5) (M.getD i zq))) := Lib.hid (fun X q => by
    have q2 : Below w.heap.size w X := b0.trans (q.mono (by rw [hW0]; simp))
    refine ⟨x0.on q, q2, ?_⟩
    rcases HC.out with h | ⟨b, off, ea, h⟩
    · exact Or.inl h
    · exact Or.inr ⟨b, off, ea, fun i hi => (h i hi).on q2⟩)
  have HW := Lib.hid hW0
  have ML : M.length ≤ 1000000 := hl
  rw [← hn] at ML hl ⊢
  generalize FndA M r w = PP at FI ⊢
  clear hc hM hB hn hl b0 x0 hW0 HC
  go_enter Try.func32, Try.ntmps32
  go_wp2_with fail
  rw [← HW.out]
  go_loopw [9, 10] (fun i j wr => ∃ lo hi : Nat, lo ≤ hi ∧ hi ≤ n ∧ i = .int .i64 lo ∧ j = .int .i64 hi ∧ Hid (∀ t, t < lo → oc (M.getD t zq) r < 0) ∧ Hid (∀ t, hi ≤ t → t < n → 0 ≤ oc (M.getD t zq) r) ∧ Hid (Below W0.heap.size W0 wr)) (fun i j _ => (intOf j).toNat - (intOf i).toNat)
  case atStart => exact ⟨0, n, by omega, by omega, rfl, rfl, Lib.hid (fun t h => by omega), Lib.hid (fun t h1 h2 => by omega), Lib.hid (Below.refl _ _)⟩
  case round =>
    obtain ⟨lo, hi, hlh, hin, rfl, rfl, I1, I2, BB⟩ := hrel
    by_cases hlt : lo < hi
    · obtain ⟨qx, qb, qm⟩ := HX.out _ BB.out
      obtain ⟨b, off, ea, qn⟩ : ∃ b off, a = some ⟨b, off, none⟩ ∧ ∀ i, i < n → At5 wr b (off + i * 5) (M.getD i zq) := by
        rcases qm with h | h
        · have := KN.out
          rw [h] at this
          simp at this
          omega
        · exact h
      subst ea
      obtain ⟨m, hm⟩ : ∃ m, m = (lo + hi) / 2 := ⟨_, rfl⟩
      have hm1 : lo ≤ m := by omega
      have hm2 : m < hi := by omega
      have hm3 : m < n := by omega
      have hm4 : (m : Int) < (n : Int) := by omega
      have c5 := qn m (by omega)
      have J1 : Hid (oc (M.getD m zq) r < 0 → ∀ t, t < m + 1 → oc (M.getD t zq) r < 0) := Lib.hid (fun h t ht => MO.out t m (by omega) (by omega) h)
      have J2 : Hid (¬ oc (M.getD m zq) r < 0 → ∀ t, m ≤ t → t < n → 0 ≤ oc (M.getD t zq) r) := Lib.hid (fun h t h1 h2 => by
        rcases (by omega : oc (M.getD t zq) r < 0 ∨ 0 ≤ oc (M.getD t zq) r) with q | q
        · exact absurd (MO.out m t h1 h2 q) h
        · exact q)
      have M0 : IntKind.i64.wrap ((lo : Int) + (hi : Int)) = (lo : Int) + (hi : Int) := by rw [IntKind.wrap_i64]; omega
      have M1 : ((lo : Int) + (hi : Int)) / 2 = (m : Int) := by omega
      have bl := c5.lt
      have bl2 := qx.lt
      have KO : Hid (∀ X, Calls Try.prog 19 #[agQ (M.getD m zq), agQ r] X fun e w' => e = .returned (.int .i64 (oc (M.getD m zq) r)) ∧ Below X.heap.size X w') := Lib.hid (fun X => order_any _ _ X)
      generalize M.getD m zq = y at c5 J1 J2 KO
      generalize oc y r = C at J1 J2 KO
      have HS : Hid (∀ X, Below wr.heap.size wr X → (fun X => (X.cell? ⟨b, off + m * 5, none⟩ = some (.int .i64 y.1) ∧ X.cell? ⟨b, off + m * 5 + 1, none⟩ = some (.string y.2.1) ∧ X.cell? ⟨b, off + m * 5 + 2, none⟩ = some (.int .i64 y.2.2.1) ∧ X.cell? ⟨b, off + m * 5 + 3, none⟩ = some (.int .i64 y.2.2.2.1) ∧ X.cell? ⟨b, off + m * 5 + 4, none⟩ = some (.int .i64 y.2.2.2.2)) ∧ X.cell? ⟨w.heap.size, 0, none⟩ = some (.int .i64 r.1) ∧ X.cell? ⟨w.heap.size, 1, none⟩ = some (.string r.2.1) ∧ X.cell? ⟨w.heap.size, 2, none⟩ = some (.int .i64 r.2.2.1) ∧ X.cell? ⟨w.heap.size, 3, none⟩ = some (.int .i64 r.2.2.2.1) ∧ X.cell? ⟨w.heap.size, 4, none⟩ = some (.int .i64 r.2.2.2.2)) X) := Lib.hid (fun X q => ⟨c5.on q, qx.on q⟩)
      obtain ⟨k1, k2, k3, k4, k5⟩ := c5
      obtain ⟨r1, r2, r3, r4, r5⟩ := qx
      clear qb qm qn
      have HM := Lib.hid hm
      clear hm
      go_upto_region 5 with fail
      go_region_held3 (fun X => (X.cell? ⟨b, off + m * 5, none⟩ = some (.int .i64 y.1) ∧ X.cell? ⟨b, off + m * 5 + 1, none⟩ = some (.string y.2.1) ∧ X.cell? ⟨b, off + m * 5 + 2, none⟩ = some (.int .i64 y.2.2.1) ∧ X.cell? ⟨b, off + m * 5 + 3, none⟩ = some (.int .i64 y.2.2.2.1) ∧ X.cell? ⟨b, off + m * 5 + 4, none⟩ = some (.int .i64 y.2.2.2.2)) ∧ X.cell? ⟨w.heap.size, 0, none⟩ = some (.int .i64 r.1) ∧ X.cell? ⟨w.heap.size, 1, none⟩ = some (.string r.2.1) ∧ X.cell? ⟨w.heap.size, 2, none⟩ = some (.int .i64 r.2.2.1) ∧ X.cell? ⟨w.heap.size, 3, none⟩ = some (.int .i64 r.2.2.2.1) ∧ X.cell? ⟨w.heap.size, 4, none⟩ = some (.int .i64 r.2.2.2.2))
        (first | exact HS.out _ (Below.drew (Below.refl _ wr)) | exact HS.out _ ((Below.drew (Below.refl _ wr)).trans hb5))
        (first | (go_at_call 19; refine (KO.out _).mono ?_; rintro e w2 ⟨rfl, hb5⟩))
      have B2 : Hid (Below W0.heap.size W0 w2) := Lib.hid (BB.out.trans (((Below.drew (Below.refl _ wr)).trans hb5).mono BB.out.size))
      clear k1 k2 k3 k4 k5 r1 r2 r3 r4 r5 hb5 HS KO bl bl2
      by_cases hC : C < 0
      · have P1 := Lib.hid (J1.out hC)
        go_wp2
        go_roundw
        case rel => exact ⟨m + 1, hi, by omega, hin, by go_num, rfl, P1, I2, B2⟩
        case measure => simp [intOf]; omega
      · have P1 := Lib.hid (J2.out (by omega))
        go_wp2
        go_roundw
        case rel => exact ⟨lo, m, hm1, by omega, rfl, rfl, I1, P1, B2⟩
        case measure => simp [intOf]; omega
    · obtain rfl : hi = lo := by omega
      obtain ⟨qx, qb, qm⟩ := HX.out _ BB.out
      have FN : Fnd M r hi := ⟨by rw [← KN.out]; exact hin, I1.out, fun t h1 h2 => I2.out t h1 (by rw [KN.out]; exact h2)⟩
      have T := Lib.hid (TH.out hi FN)
      have HF := Lib.hid FN
      clear FN
      by_cases hln : hi < n
      · obtain ⟨b, off, ea, qn⟩ : ∃ b off, a = some ⟨b, off, none⟩ ∧ ∀ i, i < n → At5 wr b (off + i * 5) (M.getD i zq) := by
          rcases qm with h | h
          · have := KN.out
            rw [h] at this
            simp at this
            omega
          · exact h
        subst ea
        have c5 := qn hi hln
        have bl := c5.lt
        have bl2 := qx.lt
        have KO : Hid (∀ X, Calls Try.prog 19 #[agQ (M.getD hi zq), agQ r] X fun e w' => e = .returned (.int .i64 (oc (M.getD hi zq) r)) ∧ Below X.heap.size X w') := Lib.hid (fun X => order_any _ _ X)
        generalize M.getD hi zq = y at c5 T KO
        generalize oc y r = C at T KO
        have TB : Hid ((C == 0) = B) := Lib.hid (by
          rw [KB.out, Bool.eq_iff_iff, hasQ_iff, T.out, ← KN.out]
          simp [hln])
        have HS : Hid (∀ X, Below wr.heap.size wr X → (fun X => (X.cell? ⟨b, off + hi * 5, none⟩ = some (.int .i64 y.1) ∧ X.cell? ⟨b, off + hi * 5 + 1, none⟩ = some (.string y.2.1) ∧ X.cell? ⟨b, off + hi * 5 + 2, none⟩ = some (.int .i64 y.2.2.1) ∧ X.cell? ⟨b, off + hi * 5 + 3, none⟩ = some (.int .i64 y.2.2.2.1) ∧ X.cell? ⟨b, off + hi * 5 + 4, none⟩ = some (.int .i64 y.2.2.2.2)) ∧ X.cell? ⟨w.heap.size, 0, none⟩ = some (.int .i64 r.1) ∧ X.cell? ⟨w.heap.size, 1, none⟩ = some (.string r.2.1) ∧ X.cell? ⟨w.heap.size, 2, none⟩ = some (.int .i64 r.2.2.1) ∧ X.cell? ⟨w.heap.size, 3, none⟩ = some (.int .i64 r.2.2.2.1) ∧ X.cell? ⟨w.heap.size, 4, none⟩ = some (.int .i64 r.2.2.2.2)) X) := Lib.hid (fun X q => ⟨c5.on q, qx.on q⟩)
        obtain ⟨k1, k2, k3, k4, k5⟩ := c5
        obtain ⟨r1, r2, r3, r4, r5⟩ := qx
        have hm4 : (hi : Int) < (n : Int) := by omega
        have hd : decide ((hi : Int) < (n : Int)) = true := decide_eq_true hm4
        clear qb qm qn
        go_upto_region 8 with fail
        go_region_held3 (fun X => (X.cell? ⟨b, off + hi * 5, none⟩ = some (.int .i64 y.1) ∧ X.cell? ⟨b, off + hi * 5 + 1, none⟩ = some (.string y.2.1) ∧ X.cell? ⟨b, off + hi * 5 + 2, none⟩ = some (.int .i64 y.2.2.1) ∧ X.cell? ⟨b, off + hi * 5 + 3, none⟩ = some (.int .i64 y.2.2.2.1) ∧ X.cell? ⟨b, off + hi * 5 + 4, none⟩ = some (.int .i64 y.2.2.2.2)) ∧ X.cell? ⟨w.heap.size, 0, none⟩ = some (.int .i64 r.1) ∧ X.cell? ⟨w.heap.size, 1, none⟩ = some (.string r.2.1) ∧ X.cell? ⟨w.heap.size, 2, none⟩ = some (.int .i64 r.2.2.1) ∧ X.cell? ⟨w.heap.size, 3, none⟩ = some (.int .i64 r.2.2.2.1) ∧ X.cell? ⟨w.heap.size, 4, none⟩ = some (.int .i64 r.2.2.2.2))
          (first | exact HS.out _ (Below.drew (Below.refl _ wr)) | exact HS.out _ ((Below.drew (Below.refl _ wr)).trans hb5))
          (first | (go_at_call 19; refine (KO.out _).mono ?_; rintro e w2 ⟨rfl, hb5⟩))
        have B2 : Hid (Below w.heap.size w w2) := Lib.hid ((HX.out _ (BB.out.trans (((Below.drew (Below.refl _ wr)).trans hb5).mono BB.out.size))).2.1)
        clear k1 k2 k3 k4 k5 r1 r2 r3 r4 r5 hb5 HS KO bl bl2
        go_wp2
        exact FI.out hi HF.out _ rfl _ B2.out _ TB.out
      · have TB : Hid (false = B) := Lib.hid (by
          rw [KB.out, eq_comm, hasQ_not, T.out, ← KN.out]
          simp [hln])
        have hd : decide ((hi : Int) < (n : Int)) = false := decide_eq_false (by omega)
        have B2 := Lib.hid qb
        clear qx qb qm
        go_upto_region 8 with fail
        go_quiet (fail)
        go_wp2
        exact FI.out hi HF.out _ rfl (wr.drewN nq) ⟨B2.out.os, B2.out.tape, B2.out.output, B2.out.size, B2.out.block⟩ _ TB.out
end Go.Proofs.Ytppachfccihbnaa.Qu
