/-
  What is proved here: what package queue's Peek, Pop and All answer, and what they keep (contracts over the translation).
-/
import Derived.Test.YtppachfccihbnaaQuPush
namespace Go.Proofs.Ytppachfccihbnaa.Qu
open Go.RowKit

/-- The first. -/
def hdQ (M : List Rq) : Rq := M.headD zq
/-- What is told where there is none. -/
def eQ (M : List Rq) : Int := if M = [] then 5 else 0
set_option maxHeartbeats 4000000 in
set_option maxRecDepth 100000 in
theorem peek_any (w : World) (b : Nat) (v : Value) (M : List Rq) (h : Qs w b v M) (hl : M.length ≤ 1000000) :
    Calls Try.prog 22 #[.pointer (some ⟨b, 0, none⟩)] w fun e w' => e = .returned (.tuple #[agQ (hdQ M), fault (eQ M)]) ∧ Below w.heap.size w w' := by
  have c := h.cell
  have bl := h.lt
  rcases M with _ | ⟨x, M⟩
  · obtain ⟨a, cap, rfl, _⟩ := h.own.rd
    clear h
    go_enter Try.func22, Try.ntmps22
    go_wp2
    refine bodyPost_ret (v := .tuple #[.agg #[.int .i64 0, .string ⟨#[]⟩, .int .i64 0, .int .i64 0, .int .i64 0], .iface 42 (.int .i64 5)]) (by simp [results, Try.results22, go_sem]) rfl ⟨rfl, (Below.refl _ _).alloc (Nat.le_refl _) _⟩
  · rcases h.own.open with ⟨_, h0⟩ | ⟨g, cap, L, rfl, _, hL, hnc, _, hl2, ht⟩
    · cases h0
    · obtain ⟨n, hn⟩ : ∃ n, n = (x :: M).length := ⟨_, rfl⟩
      have hc5 : At5 w g (0 + 0 * 5) x := Rd.at h.own.rd (i := 0) (by simp)
      obtain ⟨k1, k2, k3, k4, k5⟩ := hc5
      have gl := hL.lt
      have n0 : (0 : Int) < (n : Int) := by rw [hn]; simp
      have n1 : ¬ n = 0 := by omega
      have E : Hid (hdQ (x :: M) = x ∧ eQ (x :: M) = 0) := Lib.hid ⟨rfl, by simp [eQ]⟩
      rw [← hn] at c
      generalize hdQ (x :: M) = y at E ⊢
      generalize eQ (x :: M) = k at E ⊢
      clear h hL hl2 ht hnc hn hl
      simp only [Nat.zero_mul, Nat.add_zero, Nat.zero_add] at k1 k2 k3 k4 k5
      go_enter Try.func22, Try.ntmps22
      go_wp2
      obtain ⟨rfl, rfl⟩ := E.out
      refine bodyPost_ret (v := .tuple #[agQ y, .nilIface]) (by simp [results, Try.results22, go_sem]) rfl ⟨rfl, (Below.refl _ _).alloc (Nat.le_refl _) _⟩
/-- What is popped. -/
def PpA (b : Nat) (v : Value) (w : World) (M : List Rq) (e : Ending) (w' : World) : Prop := e = .returned (.tuple #[agQ (hdQ M), fault (eQ M)]) ∧ ∃ v' M', Qs w' b v' M' ∧ Kp b v v' w w' ∧ M' = M.tail
theorem Kp.setRow {b g : Nat} {v v' : Value} {w w' : World} (h : Kp b v v' w w') (hg : w.heap.size ≤ g) (c : Array Value) : Kp b v v' w (w'.setRow g c) :=
  ⟨h.os, h.tape, h.output, by simpa [World.setRow] using h.size, fun k hk h1 h2 => by
    rw [setRow_other w' g k c (by omega)]
    exact h.block k hk h1 h2, h.own⟩
theorem Qs.setRow {b g : Nat} {v : Value} {w : World} {M : List Rq} (h : Qs w b v M) (h1 : g ≠ b) (h2 : v.ownBlock ≠ some g) (c : Array Value) : Qs (w.setRow g c) b v M :=
  ⟨by rw [setRow_other w g b c (Ne.symm h1)]; exact h.box, own_on h.own (fun k hk => setRow_other w g k c (fun e => h2 (by rw [← e]; exact hk)))⟩
set_option maxHeartbeats 4000000 in
set_option maxRecDepth 100000 in
theorem pop_any (w : World) (b : Nat) (v : Value) (M : List Rq) (h : Qs w b v M) (hl : M.length ≤ 1000000) :
    Calls Try.prog 10 #[.pointer (some ⟨b, 0, none⟩)] w (PpA b v w M) := by
  obtain ⟨W0, hW0⟩ : ∃ W0, W0 = w.alloc (.cells #[.int .i64 0, .string ⟨#[]⟩, .int .i64 0, .int .i64 0, .int .i64 0] 31) := ⟨_, rfl⟩
  have b0 : Below w.heap.size w W0 := by rw [hW0]; exact (Below.refl _ _).alloc (Nat.le_refl _) _
  have HW := Lib.hid hW0
  have BT : Hid (∀ X, Below W0.heap.size W0 X → Below w.heap.size w X) := Lib.hid (fun X q => b0.trans (q.mono b0.size))
  have l0 : Lies W0 w.heap.size zr5 := by rw [hW0]; exact heap_alloc_new w _
  rcases M with _ | ⟨x, M⟩
  · have KP : Hid (Calls Try.prog 22 #[.pointer (some ⟨b, 0, none⟩)] W0 fun e w' => e = .returned (.tuple #[.agg #[.int .i64 0, .string ⟨#[]⟩, .int .i64 0, .int .i64 0, .int .i64 0], .iface 42 (.int .i64 5)]) ∧ Below W0.heap.size W0 w') := Lib.hid (peek_any W0 b v [] (h.on b0) hl)
    have FI : Hid (∀ X, Below W0.heap.size W0 X → ∀ c, PpA b v w [] (.returned (.tuple #[.agg #[.int .i64 0, .string ⟨#[]⟩, .int .i64 0, .int .i64 0, .int .i64 0], .iface 42 (.int .i64 5)])) (X.setRow w.heap.size c)) := Lib.hid (fun X q c => by
      have q2 := BT.out X q
      have h2 := h.on q2
      refine ⟨rfl, v, [], h2.setRow (by have := h.lt; omega) (fun e => by have := (h.own.lt _ e).2; omega) c, (Kp.of_below q2).setRow (Nat.le_refl _) c, rfl⟩)
    have HL : Hid (∀ X, Below W0.heap.size W0 X → ∀ o, Lies (X.alloc o) w.heap.size zr5) := Lib.hid (fun X q o => by
      unfold Lies
      rw [Below.heap_alloc X o w.heap.size (by have := l0.lt; have := q.size; omega), q.block _ l0.lt]
      exact l0)
    generalize PpA b v w [] = PP at FI ⊢
    clear h hl b0 l0 hW0
    go_enter Try.func10, Try.ntmps10
    go_upto_region 1 with fail
    rw [← HW.out]
    go_wp2_with (first
      | (refine ring_store rfl (.tmp 2) (.tmp 13) rfl w.heap.size zq rfl rfl zr5 rfl (HL.out w2 hb _) ?_; intro W5 HW5 r5; obtain ⟨y1, y2, y3, y4, y5⟩ := r5)
      | (go_at_call 22; refine KP.out.mono ?_; rintro e w2 ⟨rfl, hb⟩))
    refine bodyPost_ret (v := .tuple #[.agg #[.int .i64 0, .string ⟨#[]⟩, .int .i64 0, .int .i64 0, .int .i64 0], .iface 42 (.int .i64 5)]) (by simp [results, Try.results10, go_sem, y1, y2, y3, y4, y5, zq]) rfl ?_
    rw [HW5.out]
    exact FI.out _ (hb.alloc hb.size _) _
  · have KP : Hid (Calls Try.prog 22 #[.pointer (some ⟨b, 0, none⟩)] W0 fun e w' => e = .returned (.tuple #[agQ x, .nilIface]) ∧ Below W0.heap.size W0 w') := Lib.hid ((peek_any W0 b v (x :: M) (h.on b0) hl).mono (fun e w' ⟨he, hq⟩ => ⟨by rw [he]; simp [hdQ, eQ, fault], hq⟩))
    have KR : Hid (∀ X, Below W0.heap.size W0 X → Calls Try.prog 23 #[.pointer (some ⟨b, 0, none⟩), .int .i64 0] (X.alloc (.cells #[.int .i64 x.1, .string x.2.1, .int .i64 x.2.2.1, .int .i64 x.2.2.2.1, .int .i64 x.2.2.2.2] 31)) fun e w4 => e = .returned (.tuple #[]) ∧ QBx w4 X.heap.size x ∧ Lies w4 w.heap.size zr5 ∧ Hid (∀ c, PpA b v w (x :: M) (.returned (.tuple #[agQ x, .nilIface])) (w4.setRow w.heap.size c))) := Lib.hid (fun X q => by
      obtain ⟨Y, hY⟩ : ∃ Y, Y = X.alloc (.cells #[.int .i64 x.1, .string x.2.1, .int .i64 x.2.2.1, .int .i64 x.2.2.2.1, .int .i64 x.2.2.2.2] 31) := ⟨_, rfl⟩
      have qX : Below w.heap.size w X := BT.out X q
      have qY : Below X.heap.size X Y := by rw [hY]; exact (Below.refl _ _).alloc (Nat.le_refl _) _
      have hX := h.on qX
      have hQ := hX.on qY
      have sY : Y.heap.size = X.heap.size + 1 := by rw [hY, World.size_alloc]
      have lw : w.heap.size < X.heap.size := by have := l0.lt; have := q.size; omega
      have hb := h.lt
      have own1 : ∀ k, v.ownBlock = some k → k < w.heap.size := fun k hk => (h.own.lt k hk).2
      rw [← hY]
      refine (remove_any Y b v (x :: M) 0 hQ (by simp) hl).mono (fun e w4 ⟨he, v', q1, q2⟩ => ⟨he, ?_, ?_, Lib.hid (fun c => ⟨by simp [hdQ, eQ, fault], v', _, ?_, ?_, del_zero x M⟩)⟩)
      · have e1 : w4.heap[X.heap.size]? = Y.heap[X.heap.size]? := q2.block _ (by omega) (by omega) (fun e => by have := own1 _ e.symm; omega)
        have e2 : QBx Y X.heap.size x := by rw [hY]; exact QBx.new X x _
        exact ⟨(World.cell?_of_block (a := ⟨X.heap.size, 0, none⟩) e1).trans e2.1, (World.cell?_of_block (a := ⟨X.heap.size, 1, none⟩) e1).trans e2.2.1, (World.cell?_of_block (a := ⟨X.heap.size, 2, none⟩) e1).trans e2.2.2.1, (World.cell?_of_block (a := ⟨X.heap.size, 3, none⟩) e1).trans e2.2.2.2.1, (World.cell?_of_block (a := ⟨X.heap.size, 4, none⟩) e1).trans e2.2.2.2.2⟩
      · unfold Lies
        rw [q2.block _ (by omega) (by omega) (fun e => by have := own1 _ e.symm; omega), qY.block _ lw, q.block _ l0.lt]
        exact l0
      · refine q1.setRow (by omega) (fun e => ?_) c
        rcases q2.own _ e with k | k
        · have := own1 _ k; omega
        · omega
      · exact (((Kp.of_below qX).trans (Kp.of_below qY)).trans q2).setRow (Nat.le_refl _) c)
    generalize PpA b v w (x :: M) = PP at KR ⊢
    clear h hl b0 l0 hW0
    go_enter Try.func10, Try.ntmps10
    go_upto_region 1 with fail
    rw [← HW.out]
    go_wp2_with (first
      | (refine ring_store rfl (.tmp 2) (.tmp 17) rfl w.heap.size x rfl rfl zr5 rfl l4 ?_; intro W5 HW5 r5; obtain ⟨y1, y2, y3, y4, y5⟩ := r5)
      | (go_at_call 22; refine KP.out.mono ?_; rintro e w2 ⟨rfl, hb⟩)
      | (go_at_call 23; refine (KR.out w2 hb).mono ?_; rintro e w4 ⟨rfl, x4, l4, FI⟩; obtain ⟨z1, z2, z3, z4, z5⟩ := x4))
    refine bodyPost_ret (v := .tuple #[agQ x, .nilIface]) (by simp [results, Try.results10, go_sem, y1, y2, y3, y4, y5]) rfl ?_
    rw [HW5.out]
    exact FI.out _
end Go.Proofs.Ytppachfccihbnaa.Qu
