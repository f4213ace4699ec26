/-
  What is proved here: what slices.MinFunc answers at rings, by alarm.Order (a contract over the translation).
-/
import Derived.Test.YtpnbnnndpbjgmaaDoorQuPut
import Derived.Deep.RegionHeld3
namespace Go.Proofs.YtpnbnnndpbjgmaaDoor.Qu
open Go.RowKit

/-- The least of some, by their order. -/
def Lst (M : List Rq) (y : Rq) : Prop := y ∈ M ∧ ∀ z, z ∈ M → 0 ≤ oc z y
/-- What MinFunc answers. -/
def MnA (M : List Rq) (w : World) (e : Ending) (w' : World) : Prop := ∃ y, e = .returned (agQ y) ∧ Lst M y ∧ Below w.heap.size w w'
theorem below_row {n0 g : Nat} {w w' : World} (h : Below n0 w w') (hg : n0 ≤ g) (c : Array Value) : Below n0 w (w'.setRow g c) :=
  ⟨h.os, h.tape, h.output, by simpa [World.setRow] using h.size, fun j hj => by rw [setRow_other w' g j c (by omega)]; exact h.block j hj⟩
theorem Lies.row {w : World} {g k : Nat} {L : List Value} (h : Lies w k L) (hne : k ≠ g) (c : Array Value) : Lies (w.setRow g c) k L := (setRow_other w g k c hne).trans h
set_option maxHeartbeats 4000000 in
set_option maxRecDepth 100000 in
theorem min_any (M : List Rq) (v : Value) (w : World) (h : Rd w v M) (hne : M ≠ []) (hl : M.length ≤ 1000000) :
    Calls Tryd.prog 28 #[v, .func (.func 27) #[] #[]] w (MnA M w) := by
  have hlen : 0 < M.length := List.length_pos_iff.2 hne
  obtain ⟨a, cap, rfl, hc⟩ := id h
  obtain ⟨b, off, rfl, _⟩ : ∃ b off, a = some ⟨b, off, none⟩ ∧ True := by
    rcases hc with hc | ⟨b, off, ea, _⟩
    · exact absurd hc hne
    · exact ⟨b, off, ea, trivial⟩
  have eg : ∀ args w, (callFunc 27 args).run Tryd.prog w = .ok (.enter 27 args) w := fun _ _ => enters_of Tryd.func27 (by kernel_rfl) rfl _ _
  have RD : Hid (∀ i X, i < M.length → Below w.heap.size w X → At5 X b (off + i * 5) (M.getD i zq)) := Lib.hid (fun i X hi q => (h.on q).at hi)
  obtain ⟨RB, hRB⟩ : ∃ RB, RB = w.heap.size := ⟨_, rfl⟩
  obtain ⟨MB, hMB⟩ : ∃ MB, MB = w.heap.size + 1 := ⟨_, rfl⟩
  have c0 := RD.out 0 w hlen (Below.refl _ _)
  obtain ⟨x, hx⟩ : ∃ x, x = M.getD 0 zq := ⟨_, rfl⟩
  have HX0 : Hid (x ∈ M ∧ ∀ j, j < 1 → 0 ≤ oc (M.getD j zq) x) := Lib.hid ⟨by rw [hx]; exact getD_mem hlen, fun j hj => by
    obtain rfl : j = 0 := by omega
    rw [← hx, oc_self]
    omega⟩
  rw [← hx] at c0
  obtain ⟨W1, hW1⟩ : ∃ W1, W1 = (w.alloc (.cells #[.int .i64 0, .string ⟨#[]⟩, .int .i64 0, .int .i64 0, .int .i64 0] 34)).alloc (.cells #[.int .i64 x.1, .string x.2.1, .int .i64 x.2.2.1, .int .i64 x.2.2.2.1, .int .i64 x.2.2.2.2] 34) := ⟨_, rfl⟩
  have HW : Hid ((w.alloc (.cells #[.int .i64 0, .string ⟨#[]⟩, .int .i64 0, .int .i64 0, .int .i64 0] 34)).alloc (.cells #[.int .i64 x.1, .string x.2.1, .int .i64 x.2.2.1, .int .i64 x.2.2.2.1, .int .i64 x.2.2.2.2] 34) = W1) := Lib.hid hW1.symm
  have B1 : Hid (Below w.heap.size w W1) := Lib.hid (by rw [hW1]; exact Below.alloc (below_alloc w _) (by simp) _)
  have L1 : Hid (Lies W1 MB (encQ x) ∧ Lies W1 RB zr5) := Lib.hid (by
    have z1 : (w.alloc (.cells #[.int .i64 0, .string ⟨#[]⟩, .int .i64 0, .int .i64 0, .int .i64 0] 34)).heap.size = w.heap.size + 1 := by simp
    rw [hW1, hMB, hRB]
    constructor
    · rw [← z1]; exact heap_alloc_new (w.alloc (.cells #[.int .i64 0, .string ⟨#[]⟩, .int .i64 0, .int .i64 0, .int .i64 0] 34)) _
    · exact Lies.on (show Lies (w.alloc (.cells #[.int .i64 0, .string ⟨#[]⟩, .int .i64 0, .int .i64 0, .int .i64 0] 34)) w.heap.size zr5 from heap_alloc_new w _) (below_alloc _ _))
  have NB : Hid (w.heap.size ≤ RB ∧ w.heap.size ≤ MB ∧ RB ≠ MB) := Lib.hid (by omega)
  have FI : Hid (∀ y W, y ∈ M → (∀ j, j < M.length → 0 ≤ oc (M.getD j zq) y) → Below w.heap.size w W → MnA M w (.returned (agQ y)) W) := Lib.hid (fun y W h1 h2 h3 => ⟨y, rfl, ⟨h1, fun z hz => by
    obtain ⟨j, hj, e⟩ := mem_getD hz
    rw [← e]
    exact h2 j hj⟩, h3⟩)
  have cl := c0.lt
  obtain ⟨k1, k2, k3, k4, k5⟩ := c0
  simp only [Nat.zero_mul, Nat.add_zero] at k1 k2 k3 k4 k5
  generalize MnA M w = PP at FI ⊢
  generalize hn : M.length = n at *
  have hn0 : ¬ n = 0 := by omega
  have hn1 : ¬ (n : Int) < 1 := by omega
  clear h hc hx hW1 hne
  go_enter Tryd.func28, Tryd.ntmps28
  go_upto_region 4 with fail
  rw [HW.out, ← hMB, ← hRB]
  clear k1 k2 k3 k4 k5 cl HW hMB hRB
  go_wp2_with fail
  go_loopw [6] (fun i wr => ∃ (k : Nat) (y : Rq), 1 ≤ k ∧ k ≤ n ∧ i = .int .i64 k ∧ Hid (y ∈ M ∧ ∀ j, j < k → 0 ≤ oc (M.getD j zq) y) ∧ Hid (Lies wr MB (encQ y) ∧ Lies wr RB zr5) ∧ Hid (Below w.heap.size w wr)) (fun i _ => n - (intOf i).toNat)
  case atStart => exact ⟨1, x, by omega, by omega, rfl, HX0, L1, B1⟩
  case round =>
    clear HX0 L1 B1
    obtain ⟨k, y, hk1, hkn, rfl, HY, LL, BB⟩ := hrel
    by_cases hlt : k < n
    · have c5 := RD.out k wr hlt BB.out
      have RX : Hid (∀ X, Below w.heap.size w X → At5 X b (off + k * 5) (M.getD k zq)) := Lib.hid (fun X q => RD.out k X hlt q)
      have KO : Hid (∀ X, Calls Tryd.prog 27 #[agQ (M.getD k zq), agQ y] X fun e w' => e = .returned (.int .i64 (oc (M.getD k zq) y)) ∧ Below X.heap.size X w') := Lib.hid (fun X => order_any _ _ X)
      have Y1 : Hid (0 ≤ oc (M.getD k zq) y → y ∈ M ∧ ∀ j, j < k + 1 → 0 ≤ oc (M.getD j zq) y) := Lib.hid (fun hh => ⟨HY.out.1, fun j hj => by
        rcases (by omega : j < k ∨ j = k) with q | q
        · exact HY.out.2 j q
        · rw [q]; exact hh⟩)
      have Y2 : Hid (oc (M.getD k zq) y < 0 → M.getD k zq ∈ M ∧ ∀ j, j < k + 1 → 0 ≤ oc (M.getD j zq) (M.getD k zq)) := Lib.hid (fun hh => ⟨getD_mem (by omega), fun j hj => by
        rcases (by omega : j < k ∨ j = k) with q2 | q2
        · rcases Int.lt_or_le (oc (M.getD j zq) (M.getD k zq)) 0 with q | q
          · have := oc_cm.tr _ _ _ q hh
            have := HY.out.2 j q2
            omega
          · exact q
        · rw [q2, oc_self]; omega⟩)
      have hm4 : (k : Int) < (n : Int) := by omega
      generalize M.getD k zq = z at c5 RX KO Y1 Y2
      generalize oc z y = C at KO Y1 Y2
      have m5 := LL.out.1.box
      have HS : Hid (∀ X, Below wr.heap.size wr X → (fun X => (X.cell? ⟨b, off + k * 5, none⟩ = some (.int .i64 z.1) ∧ X.cell? ⟨b, off + k * 5 + 1, none⟩ = some (.string z.2.1) ∧ X.cell? ⟨b, off + k * 5 + 2, none⟩ = some (.int .i64 z.2.2.1) ∧ X.cell? ⟨b, off + k * 5 + 3, none⟩ = some (.int .i64 z.2.2.2.1) ∧ X.cell? ⟨b, off + k * 5 + 4, none⟩ = some (.int .i64 z.2.2.2.2)) ∧ X.cell? ⟨MB, 0, none⟩ = some (.int .i64 y.1) ∧ X.cell? ⟨MB, 1, none⟩ = some (.string y.2.1) ∧ X.cell? ⟨MB, 2, none⟩ = some (.int .i64 y.2.2.1) ∧ X.cell? ⟨MB, 3, none⟩ = some (.int .i64 y.2.2.2.1) ∧ X.cell? ⟨MB, 4, none⟩ = some (.int .i64 y.2.2.2.2)) X) := Lib.hid (fun X q => ⟨c5.on q, m5.on q⟩)
      have bl := c5.lt
      have bl2 := m5.lt
      obtain ⟨k1, k2, k3, k4, k5⟩ := c5
      obtain ⟨r1, r2, r3, r4, r5⟩ := m5
      go_upto_region 7 with fail
      go_region_held3 (fun X => (X.cell? ⟨b, off + k * 5, none⟩ = some (.int .i64 z.1) ∧ X.cell? ⟨b, off + k * 5 + 1, none⟩ = some (.string z.2.1) ∧ X.cell? ⟨b, off + k * 5 + 2, none⟩ = some (.int .i64 z.2.2.1) ∧ X.cell? ⟨b, off + k * 5 + 3, none⟩ = some (.int .i64 z.2.2.2.1) ∧ X.cell? ⟨b, off + k * 5 + 4, none⟩ = some (.int .i64 z.2.2.2.2)) ∧ X.cell? ⟨MB, 0, none⟩ = some (.int .i64 y.1) ∧ X.cell? ⟨MB, 1, none⟩ = some (.string y.2.1) ∧ X.cell? ⟨MB, 2, none⟩ = some (.int .i64 y.2.2.1) ∧ X.cell? ⟨MB, 3, none⟩ = some (.int .i64 y.2.2.2.1) ∧ X.cell? ⟨MB, 4, none⟩ = some (.int .i64 y.2.2.2.2))
        (first | exact HS.out _ (Below.drew (Below.refl _ wr)) | exact HS.out _ ((Below.drew (Below.refl _ wr)).trans hb5))
        (first | (go_at_call 27; refine (KO.out _).mono ?_; rintro e w2 ⟨rfl, hb5⟩))
      have q2 : Below wr.heap.size wr w2 := (Below.drew (Below.refl _ wr)).trans hb5
      have B2 : Hid (Below w.heap.size w w2) := Lib.hid (BB.out.trans (q2.mono BB.out.size))
      have L2 : Hid (Lies w2 MB (encQ y) ∧ Lies w2 RB zr5) := Lib.hid ⟨LL.out.1.on q2, LL.out.2.on q2⟩
      clear k1 k2 k3 k4 k5 r1 r2 r3 r4 r5 hb5 HS KO bl bl2 q2
      by_cases hC : C < 0
      · have P1 := Lib.hid (Y2.out hC)
        have c5 := RX.out w2 B2.out
        have bl := c5.lt
        obtain ⟨k1, k2, k3, k4, k5⟩ := c5
        clear Y1 Y2 RX
        go_wp2_with (refine ring_store rfl (.tmp 5) (.tmp 31) rfl MB z rfl rfl (encQ y) rfl L2.out.1 ?_; intro W6 HW6 r6; clear r6)
        have E6 : Hid ((Lies W6 MB (encQ z) ∧ Lies W6 RB zr5) ∧ Below w.heap.size w W6) := Lib.hid (by
          rw [HW6.out]
          exact ⟨⟨L2.out.1.set (encQ z), L2.out.2.row NB.out.2.2 _⟩, below_row B2.out NB.out.2.1 _⟩)
        go_roundw
        case rel => exact ⟨k + 1, z, by omega, by omega, by go_num, P1, Lib.hid E6.out.1, Lib.hid E6.out.2⟩
        case measure => simp [intOf]; omega
      · have P1 := Lib.hid (Y1.out (by omega))
        clear Y1 Y2 RX
        go_wp2
        go_roundw
        case rel => exact ⟨k + 1, y, by omega, by omega, by go_num, P1, L2, B2⟩
        case measure => simp [intOf]; omega
    · obtain rfl : k = n := by omega
      have m5 := LL.out.1.box
      have bl2 := m5.lt
      obtain ⟨r1, r2, r3, r4, r5⟩ := m5
      have hm4 : ¬ (k : Int) < (k : Int) := by omega
      go_wp2_with (refine ring_store rfl (.tmp 4) (.tmp 32) rfl RB y rfl rfl zr5 rfl LL.out.2 ?_; intro W6 HW6 r6; obtain ⟨y1, y2, y3, y4, y5⟩ := r6)
      refine bodyPost_ret (v := agQ y) (by simp [results, Tryd.results28, go_sem, y1, y2, y3, y4, y5]) rfl ?_
      rw [HW6.out]
      exact FI.out y _ HY.out.1 HY.out.2 (below_row BB.out NB.out.1 _)
end Go.Proofs.YtpnbnnndpbjgmaaDoor.Qu
