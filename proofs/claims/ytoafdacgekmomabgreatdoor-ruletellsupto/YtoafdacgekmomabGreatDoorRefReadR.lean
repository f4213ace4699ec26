/-
  What is proved here: what the document's ReadRule answers of any text that is not too long (a contract over the translation).
-/
import Derived.Test.YtoafdacgekmomabGreatDoorRpParse
import Derived.Test.YtoafdacgekmomabGreatDoorRefShowR
import Derived.Test.YtoafdacgekmomabGreatDoorRefDay
import Derived.Test.YtoafdacgekmomabGreatDoorTxtRule3
import Derived.Test.YtoafdacgekmomabGreatDoorRefRule3
namespace Go.Proofs.YtoafdacgekmomabGreatDoor
open Go.RowKit Cal Txt

/-- The words of parts, as a list that a call makes. -/
def KindL : Array Value := #[.string ⟨#[101, 118, 101, 114, 121]⟩, .string ⟨#[99, 111, 117, 110, 116]⟩, .string ⟨#[117, 110, 116, 105, 108]⟩, .string ⟨#[109, 111, 110, 116, 104, 115]⟩, .string ⟨#[100, 97, 121, 115]⟩, .string ⟨#[111, 110]⟩, .string ⟨#[112, 105, 99, 107]⟩]
theorem kind_lie (w : World) (t : TypeId) : ∀ j : Nat, j < 7 → (w.alloc (.cells KindL t)).cell? ⟨w.heap.size, j, none⟩ = some (.string (tb (kw j))) := fun j hj => by
  rcases seven hj with rfl | rfl | rfl | rfl | rfl | rfl | rfl <;> simp [KindL] <;> rfl
theorem RBox.set0 {W : World} {b : Nat} {f e c u : Int} {vm vd vw vp : Value} (h : RBox W b f e c u vm vd vw vp) (n : Int) : RBox (W.setCell ⟨b, 0, none⟩ (.int .i64 n)) b n e c u vm vd vw vp := by
  obtain ⟨h0, h1, h2, h3, h4, h5, h6, h7⟩ := h
  exact ⟨sc_same _ h0, (sc_other W _ (Or.inr (by decide))).trans h1, (sc_other W _ (Or.inr (by decide))).trans h2, (sc_other W _ (Or.inr (by decide))).trans h3, (sc_other W _ (Or.inr (by decide))).trans h4, (sc_other W _ (Or.inr (by decide))).trans h5, (sc_other W _ (Or.inr (by decide))).trans h6, (sc_other W _ (Or.inr (by decide))).trans h7⟩
/-- Which of the first frequencies a word is. -/
def ffd (l : List UInt8) (d : Nat) : Int := if fk l < d then fk l else 0
theorem fk_ge (l : List UInt8) : 0 ≤ fk l ∧ fk l ≤ 4 := by
  by_cases h : fk l = 0
  · omega
  · have := fq_fk h; omega
theorem ffd_one (l : List UInt8) : ffd l 1 = 0 := by
  unfold ffd; split
  · have := fk_ge l; omega
  · rfl
theorem ffd_hit {l : List UInt8} {d : Nat} (h1 : 1 ≤ d) (h7 : d ≤ 4) (h : fq d = l) : ffd l (d + 1) = d := by
  have := fk_fq (k := d) (by omega) (by omega)
  rw [h] at this
  unfold ffd; rw [this, if_pos (by omega)]
theorem ffd_skip {l : List UInt8} {d : Nat} (h1 : 1 ≤ d) (h : ¬ fq d = l) : ffd l (d + 1) = ffd l d := by
  unfold ffd
  by_cases q : fk l < d
  · rw [if_pos q, if_pos (by omega)]
  · rw [if_neg q, if_neg (fun k => ?_)]
    have e : fk l = d := by omega
    have := fq_fk (l := l) (by omega)
    rw [e] at this
    exact h this.1
theorem ffd_all (l : List UInt8) : ffd l 5 = fk l := by
  unfold ffd; rw [if_pos (by have := fk_ge l; omega)]
/-- Which of the first parts a word begins. -/
def kfd (l : List UInt8) (d : Nat) : Int := if kk l < d then kk l else -1
theorem kfd_zero (l : List UInt8) : kfd l 0 = -1 := by
  unfold kfd; split
  · have := kk_bd l; omega
  · rfl
theorem kfd_hit {l : List UInt8} {d : Nat} (h7 : d < 7) (h : kw d = l) : kfd l (d + 1) = d := by
  have := kk_kw h7
  rw [h] at this
  unfold kfd; rw [this, if_pos (by omega)]
theorem kfd_skip {l : List UInt8} {d : Nat} (h : ¬ kw d = l) : kfd l (d + 1) = kfd l d := by
  unfold kfd
  by_cases q : kk l < d
  · rw [if_pos q, if_pos (by omega)]
  · rw [if_neg q, if_neg (fun k => ?_)]
    have e : kk l = d := by omega
    have := kw_kk (l := l) (by omega)
    rw [show (kk l).toNat = d by omega] at this
    exact h this.1
theorem kfd_all (l : List UInt8) : kfd l 7 = kk l := by
  unfold kfd; rw [if_pos (by have := kk_bd l; omega)]
/-- What is answered of a text. -/
def ReadA (w : World) (l : List UInt8) (e : Ending) (w' : World) : Prop :=
  Below w.heap.size w w' ∧ ((¬ pe l = 0 ∧ e = .returned (.tuple #[.agg #[.int .i64 0, .int .i64 0, .int .i64 0, .int .i64 0, .slice none 0 0, .slice none 0 0, .slice none 0 0, .slice none 0 0], .int .i64 (pe l)])) ∨ ∃ r v, rr l = some r ∧ rf r = 0 ∧ e = .returned (.tuple #[v, .int .i64 0]) ∧ RuleIn w' v r)
theorem BoxR.first (W : World) : BoxR (W.alloc (.cells #[.int .i64 0, .int .i64 1, .int .i64 0, .int .i64 0, .slice none 0 0, .slice none 0 0, .slice none 0 0, .slice none 0 0] 25)) W.heap.size (r0 0) :=
  ⟨_, _, _, _, RBox.new W 0 1 0 0 _ _ _ _ 25, fun o => by simp, ⟨⟨none, 0, rfl, Or.inl rfl⟩, Far.none _ _ _⟩, ⟨⟨none, 0, rfl, Or.inl rfl⟩, Far.none _ _ _⟩, ⟨⟨none, 0, rfl, Or.inl rfl⟩, Far.none _ _ _⟩, ⟨none, 0, rfl, Or.inl rfl⟩, Far.none _ _ _⟩
theorem BoxR.freq {W : World} {b : Nat} {f : Int} (h : BoxR W b (r0 f)) (n : Int) : BoxR (W.setCell ⟨b, 0, none⟩ (.int .i64 n)) b (r0 n) := by
  obtain ⟨vm, vd, vw, vp, hR, hf, ⟨a1, a2⟩, ⟨b1, b2⟩, ⟨c1, c2⟩, d1, d2⟩ := h
  exact ⟨vm, vd, vw, vp, hR.set0 n, fun o => by simpa using hf o, ⟨a1.set a2 _ _, a2⟩, ⟨b1.set b2 _ _, b2⟩, ⟨c1.set c2 _ _, c2⟩, d1.set d2 _ _, d2⟩
theorem BoxR.drew {W : World} {b : Nat} {r : Rl} (h : BoxR W b r) (n : Nat) : BoxR (W.drewN n) b r := h.on (below_drewN (Below.refl _ _) _)
theorem there_set {W : World} {b b' n o : Nat} {x : Value} (h : W.there b' 0 n) (hb : b' ≠ b) : (W.setCell ⟨b, o, none⟩ x).there b' 0 n := fun j hj => by
  obtain ⟨h1, h2⟩ := h j hj
  rw [sc_other W x (Or.inl hb)]
  exact ⟨h1, by simpa using h2⟩
theorem BoxR.every {W : World} {b : Nat} {r : Rl} (h : BoxR W b r) (n : Int) : BoxR (W.setCell ⟨b, 1, none⟩ (.int .i64 n)) b { r with every := n } := by
  obtain ⟨vm, vd, vw, vp, hR, hf, ⟨a1, a2⟩, ⟨b1, b2⟩, ⟨c1, c2⟩, d1, d2⟩ := h
  exact ⟨vm, vd, vw, vp, hR.set1 n, fun o => by simpa using hf o, ⟨a1.set a2 _ _, a2⟩, ⟨b1.set b2 _ _, b2⟩, ⟨c1.set c2 _ _, c2⟩, d1.set d2 _ _, d2⟩
theorem BoxR.count {W : World} {b : Nat} {r : Rl} (h : BoxR W b r) (n : Int) : BoxR (W.setCell ⟨b, 2, none⟩ (.int .i64 n)) b { r with count := n } := by
  obtain ⟨vm, vd, vw, vp, hR, hf, ⟨a1, a2⟩, ⟨b1, b2⟩, ⟨c1, c2⟩, d1, d2⟩ := h
  exact ⟨vm, vd, vw, vp, hR.set2 n, fun o => by simpa using hf o, ⟨a1.set a2 _ _, a2⟩, ⟨b1.set b2 _ _, b2⟩, ⟨c1.set c2 _ _, c2⟩, d1.set d2 _ _, d2⟩
theorem BoxR.till {W : World} {b : Nat} {r : Rl} (h : BoxR W b r) (n : Int) : BoxR (W.setCell ⟨b, 3, none⟩ (.int .i64 n)) b { r with till := n } := by
  obtain ⟨vm, vd, vw, vp, hR, hf, ⟨a1, a2⟩, ⟨b1, b2⟩, ⟨c1, c2⟩, d1, d2⟩ := h
  exact ⟨vm, vd, vw, vp, hR.set3 n, fun o => by simpa using hf o, ⟨a1.set a2 _ _, a2⟩, ⟨b1.set b2 _ _, b2⟩, ⟨c1.set c2 _ _, c2⟩, d1.set d2 _ _, d2⟩
theorem BoxR.months {W : World} {b : Nat} {r : Rl} (h : BoxR W b r) (v : Value) (l : List Int) (hv : Ints W v l) (hf : Far b v) : BoxR (W.setCell ⟨b, 4, none⟩ v) b { r with months := l } := by
  obtain ⟨vm, vd, vw, vp, hR, hfz, ⟨a1, a2⟩, ⟨b1, b2⟩, ⟨c1, c2⟩, d1, d2⟩ := h
  exact ⟨v, vd, vw, vp, hR.set4 v, fun o => by simpa using hfz o, ⟨hv.set hf _ _, hf⟩, ⟨b1.set b2 _ _, b2⟩, ⟨c1.set c2 _ _, c2⟩, d1.set d2 _ _, d2⟩
theorem BoxR.days {W : World} {b : Nat} {r : Rl} (h : BoxR W b r) (v : Value) (l : List Int) (hv : Ints W v l) (hf : Far b v) : BoxR (W.setCell ⟨b, 5, none⟩ v) b { r with days := l } := by
  obtain ⟨vm, vd, vw, vp, hR, hfz, ⟨a1, a2⟩, ⟨b1, b2⟩, ⟨c1, c2⟩, d1, d2⟩ := h
  exact ⟨vm, v, vw, vp, hR.set5 v, fun o => by simpa using hfz o, ⟨a1.set a2 _ _, a2⟩, ⟨hv.set hf _ _, hf⟩, ⟨c1.set c2 _ _, c2⟩, d1.set d2 _ _, d2⟩
theorem BoxR.weeks {W : World} {b : Nat} {r : Rl} (h : BoxR W b r) (v : Value) (l : List (Int × Int)) (hv : Nths W v l) (hf : Far b v) : BoxR (W.setCell ⟨b, 6, none⟩ v) b { r with weeks := l } := by
  obtain ⟨vm, vd, vw, vp, hR, hfz, ⟨a1, a2⟩, ⟨b1, b2⟩, ⟨c1, c2⟩, d1, d2⟩ := h
  exact ⟨vm, vd, v, vp, hR.set6 v, fun o => by simpa using hfz o, ⟨a1.set a2 _ _, a2⟩, ⟨b1.set b2 _ _, b2⟩, ⟨hv.set hf _ _, hf⟩, d1.set d2 _ _, d2⟩
theorem BoxR.pick {W : World} {b : Nat} {r : Rl} (h : BoxR W b r) (v : Value) (l : List Int) (hv : Ints W v l) (hf : Far b v) : BoxR (W.setCell ⟨b, 7, none⟩ v) b { r with pick := l } := by
  obtain ⟨vm, vd, vw, vp, hR, hfz, ⟨a1, a2⟩, ⟨b1, b2⟩, ⟨c1, c2⟩, d1, d2⟩ := h
  exact ⟨vm, vd, vw, v, hR.set7 v, fun o => by simpa using hfz o, ⟨a1.set a2 _ _, a2⟩, ⟨b1.set b2 _ _, b2⟩, ⟨c1.set c2 _ _, c2⟩, hv.set hf _ _, hf⟩
set_option maxRecDepth 100000 in
set_option maxHeartbeats 8000000 in
theorem readRule_any (s : ByteArray) (w : World) (hs : s.size ≤ 2000000) :
    Calls Tryz.prog 10 #[.string s] w (ReadA w s.data.toList) := by
  have PL := pcs_le (c := 32) hs
  have PP : 0 < (pcs 32 s).length := by rw [pcs_len]; omega
  obtain ⟨Wa, hWa⟩ : ∃ W, W = w.alloc (.cells #[.int .i64 0, .int .i64 0, .int .i64 0, .int .i64 0, .slice none 0 0, .slice none 0 0, .slice none 0 0, .slice none 0 0] 25) := ⟨_, rfl⟩
  obtain ⟨Wb, hWb⟩ : ∃ W, W = Wa.alloc (.cells FreqL 9) := ⟨_, rfl⟩
  obtain ⟨Wc, hWc⟩ : ∃ W, W = Wb.alloc (.cells KindL 9) := ⟨_, rfl⟩
  have za : Wa.heap.size = w.heap.size + 1 := by rw [hWa]; simp
  have zb : Wb.heap.size = w.heap.size + 2 := by rw [hWb]; simp [za]
  have zc : Wc.heap.size = w.heap.size + 3 := by rw [hWc]; simp [zb]
  have Bab : Below Wa.heap.size Wa Wb := by rw [hWb]; exact (Below.refl _ _).alloc (Nat.le_refl _) _
  have Bbc : Below Wb.heap.size Wb Wc := by rw [hWc]; exact (Below.refl _ _).alloc (Nat.le_refl _) _
  have Bwa : Below w.heap.size w Wa := by rw [hWa]; exact (Below.refl _ _).alloc (Nat.le_refl _) _
  have BwC := Lib.hid ((Bwa.trans (Bab.mono (by omega))).trans (Bbc.mono (by omega)))
  have TC := Lib.hid (there_on (there_on (b := w.heap.size) (by rw [hWa]; exact there_new w 25) Bab (by omega)) Bbc (by omega))
  have HF : Hid (∀ j : Nat, j < 5 → Wc.cell? ⟨w.heap.size + 1, j, none⟩ = some (.string (tb (fq j)))) := Lib.hid (fun j hj => by
    rw [← za]
    have := freq_lie Wa 9 j hj
    rw [← hWb] at this
    exact (Bbc.cell (p := ⟨Wa.heap.size, j, none⟩) (by show Wa.heap.size < Wb.heap.size; omega)).trans this)
  have HK : Hid (∀ j : Nat, j < 7 → Wc.cell? ⟨w.heap.size + 2, j, none⟩ = some (.string (tb (kw j)))) := Lib.hid (fun j hj => by
    rw [← zb, hWc]
    exact kind_lie Wb 9 j hj)
  clear Bab Bbc Bwa
  go_enter Tryz.func10, Tryz.ntmps10
  go_upto_region 3 with fail
  change Code.wp _ _ _ _ (((w.alloc (.cells #[.int .i64 0, .int .i64 0, .int .i64 0, .int .i64 0, .slice none 0 0, .slice none 0 0, .slice none 0 0, .slice none 0 0] 25)).alloc (.cells FreqL 9)).alloc (.cells KindL 9))
  rw [← hWa, ← hWb, ← hWc]
  clear hWa hWb hWc
  go_wp2_with fail
  refine (refCut s 32 _ hs).mono ?_
  rintro e W1 ⟨B0, v, rfl, hown0⟩
  have BW1 := Lib.hid (BwC.out.trans (B0.mono BwC.out.size))
  have T1 := Lib.hid (there_on TC.out B0 (by omega))
  have HF1 : Hid (∀ j : Nat, j < 5 → W1.cell? ⟨w.heap.size + 1, j, none⟩ = some (.string (tb (fq j)))) := Lib.hid (fun j hj => (B0.cell (p := ⟨w.heap.size + 1, j, none⟩) (by show w.heap.size + 1 < Wc.heap.size; omega)).trans (HF.out j hj))
  have HK1 : Hid (∀ j : Nat, j < 7 → W1.cell? ⟨w.heap.size + 2, j, none⟩ = some (.string (tb (kw j)))) := Lib.hid (fun j hj => (B0.cell (p := ⟨w.heap.size + 2, j, none⟩) (by show w.heap.size + 2 < Wc.heap.size; omega)).trans (HK.out j hj))
  have z1 : w.heap.size + 3 ≤ W1.heap.size := by have := B0.size; omega
  obtain ⟨g, cap, rfl, hg0, hg1, hcap, hC⟩ := cut_lies hown0
  have HC := Lib.hid hC
  have hg3 : w.heap.size + 3 ≤ g := by omega
  clear hown0 hC B0 HF HK TC BwC za zb zc hg0
  have X0 := Lib.hid (BoxR.first W1)
  have BA := Lib.hid ((Below.refl W1.heap.size W1).alloc (Nat.le_refl _) (.cells #[.int .i64 0, .int .i64 1, .int .i64 0, .int .i64 0, .slice none 0 0, .slice none 0 0, .slice none 0 0, .slice none 0 0] 25))
  go_wp2
  generalize (W1.alloc (.cells #[.int .i64 0, .int .i64 1, .int .i64 0, .int .i64 0, .slice none 0 0, .slice none 0 0, .slice none 0 0, .slice none 0 0] 25)) = W2 at X0 BA ⊢
  have c0 := HC.out 0 PP
  obtain ⟨x, hx⟩ : ∃ x, x = (pcs 32 s)[0] := ⟨_, rfl⟩
  rw [← hx] at c0
  have HXE := Lib.hid hx
  clear hx
  go_loopw [8] (fun i wi => ∃ d : Nat, 1 ≤ d ∧ d ≤ 5 ∧ i = .int .i64 d ∧ BoxR wi W1.heap.size (r0 (ffd x.data.toList d)) ∧ Below W1.heap.size W1 wi) (fun i _ => 5 - (intOf i).toNat)
  case atStart => exact ⟨1, by omega, by omega, rfl, by rw [ffd_one]; exact X0.out, BA.out⟩
  case round =>
    obtain ⟨d, d1, d8, rfl, hX, hBi⟩ := hrel
    have HX := Lib.hid hX
    have ck1 := (hBi.cell (p := ⟨g, 0, none⟩) hg1).trans c0
    clear hX
    by_cases hd : (d : Int) ≤ 4
    · have cd := (hBi.cell (p := ⟨w.heap.size + 1, d, none⟩) (by show w.heap.size + 1 < W1.heap.size; omega)).trans (HF1.out d (by omega))
      by_cases he : fq d = x.data.toList
      · have e1 : ((tb (fq d)).toList == x.toList) = true := by rw [Lib.toList_data, Lib.toList_data, tb_data, he]; simp
        have N1 := Lib.hid (ffd_hit d1 (by omega) he)
        have hl := HX.out.lt
        obtain ⟨_, _, _, _, ⟨q0, q1, q2, q3, q4, q5, q6, q7⟩, hfz, _⟩ := id HX.out
        have F1 := hfz 0
        clear he hfz
        go_wp2_with fail
        go_quiet (fail)
        go_wp2
        go_roundw
        case rel => exact ⟨d + 1, by omega, by omega, by go_num, by rw [N1.out]; exact (HX.out.drew _).freq _, (below_drewN hBi _).setCell (Nat.le_refl _) _⟩
        case measure => simp [intOf]; omega
      · have e1 : ((tb (fq d)).toList == x.toList) = false := by rw [Lib.toList_data, Lib.toList_data, tb_data]; simpa using he
        have N1 := Lib.hid (ffd_skip d1 he)
        clear he
        go_wp2_with fail
        go_quiet (fail)
        go_wp2
        go_roundw
        case rel => exact ⟨d + 1, by omega, by omega, by go_num, by rw [N1.out]; exact HX.out.drew _, below_drewN hBi _⟩
        case measure => simp [intOf]; omega
    · obtain rfl : d = 5 := by omega
      rw [ffd_all] at HX
      have BW2 := BW1.out.trans (hBi.mono BW1.out.size)
      have T2 := there_on T1.out hBi (by omega)
      have hl := HX.out.lt
      obtain ⟨_, _, _, _, ⟨q0, q1, q2, q3, q4, q5, q6, q7⟩, _⟩ := id HX.out
      change wr.cell? ⟨W1.heap.size, 0, none⟩ = some (.int .i64 (fk x.data.toList)) at q0
      obtain ⟨WL, hWL⟩ : ∃ WL, WL = (pcs 32 s).map (·.data.toList) := ⟨_, rfl⟩
      have LW : WL.length = (pcs 32 s).length := by rw [hWL, List.length_map]
      have AT : Hid (∀ k (h : k < (pcs 32 s).length), WL[k]'(by rw [LW]; exact h) = (pcs 32 s)[k].data.toList) := Lib.hid (fun k h => by simp [hWL])
      have RR : Hid (rr s.data.toList = if fk x.data.toList = 0 then none else rd2 (-1) (r0 (fk x.data.toList)) (WL.drop 1)) := Lib.hid (by
        refine rr_rd2 _ _ _ ?_
        rw [← pcs_cut, ← hWL, HXE.out, ← AT.out 0 PP]
        exact List.drop_eq_getElem_cons (i := 0) (by omega))
      clear hWL c0 ck1 hd d1 d8
      rcases hz : (fk x.data.toList == 0) with _ | _
      case true =>
        have N0 : Hid (pe s.data.toList = 2) := Lib.hid (pe_none (by rw [RR.out, if_pos (by simpa using hz)]))
        go_wp2_with (refine wpList_store_keep rfl 25 (.tmp 2) (.tmp 47) rfl w.heap.size #[.int .i64 0, .int .i64 0, .int .i64 0, .int .i64 0, .slice none 0 0, .slice none 0 0, .slice none 0 0, .slice none 0 0] rfl rfl T2 (by kernel_rfl) (by simp [Value.oneCell']) BW2 (Nat.le_refl _) ?_)
        intro W4 R4 B4 _
        have r0 := R4 0 _ rfl
        have r1 := R4 1 _ rfl
        have r2 := R4 2 _ rfl
        have r3 := R4 3 _ rfl
        have r4 := R4 4 _ rfl
        have r5 := R4 5 _ rfl
        have r6 := R4 6 _ rfl
        have r7 := R4 7 _ rfl
        simp only [Nat.zero_add] at r0 r1 r2 r3 r4 r5 r6 r7
        clear R4
        go_wp2
        refine bodyPost_ret (v := .tuple #[.agg #[.int .i64 0, .int .i64 0, .int .i64 0, .int .i64 0, .slice none 0 0, .slice none 0 0, .slice none 0 0, .slice none 0 0], .int .i64 2]) (by simp [results, Tryz.results10, go_sem, r0, r1, r2, r3, r4, r5, r6, r7]) rfl ⟨B4, Or.inl ⟨by rw [N0.out]; decide, by rw [N0.out]⟩⟩
      have hz' : ¬ fk x.data.toList = 0 := by simpa using hz
      have RR2 := Lib.hid (RR.out.trans (if_neg hz'))
      clear RR
      rcases hp : (((pcs 32 s).length : Int) % 2 == 0) with _ | _
      case true =>
        have hp' : (pcs 32 s).length % 2 = 0 := by simp at hp; omega
        have N0 : Hid (pe s.data.toList = 2) := Lib.hid (pe_none (by rw [RR2.out]; exact rd2_odd _ _ _ (by rw [List.length_drop, LW]; omega)))
        go_wp2_with (refine wpList_store_keep rfl 25 (.tmp 2) (.tmp 47) rfl w.heap.size #[.int .i64 0, .int .i64 0, .int .i64 0, .int .i64 0, .slice none 0 0, .slice none 0 0, .slice none 0 0, .slice none 0 0] rfl rfl T2 (by kernel_rfl) (by simp [Value.oneCell']) BW2 (Nat.le_refl _) ?_)
        intro W4 R4 B4 _
        have r0 := R4 0 _ rfl
        have r1 := R4 1 _ rfl
        have r2 := R4 2 _ rfl
        have r3 := R4 3 _ rfl
        have r4 := R4 4 _ rfl
        have r5 := R4 5 _ rfl
        have r6 := R4 6 _ rfl
        have r7 := R4 7 _ rfl
        simp only [Nat.zero_add] at r0 r1 r2 r3 r4 r5 r6 r7
        clear R4
        go_wp2
        refine bodyPost_ret (v := .tuple #[.agg #[.int .i64 0, .int .i64 0, .int .i64 0, .int .i64 0, .slice none 0 0, .slice none 0 0, .slice none 0 0, .slice none 0 0], .int .i64 2]) (by simp [results, Tryz.results10, go_sem, r0, r1, r2, r3, r4, r5, r6, r7]) rfl ⟨B4, Or.inl ⟨by rw [N0.out]; decide, by rw [N0.out]⟩⟩
      have hp' : (pcs 32 s).length % 2 = 1 := by simp at hp; omega
      have HBi := Lib.hid hBi
      have RR3 := Lib.hid RR2.out
      go_wp2
      clear q0 q1 q2 q3 q4 q5 q6 q7 hz' hl hz hp BW2 T2 HF1 X0 BA
      go_loopw [9, 10] (fun la i wi => ∃ (k : Nat) (l : Int) (r : Rl), k % 2 = 1 ∧ k ≤ (pcs 32 s).length ∧ i = .int .i64 k ∧ la = .int .i64 l ∧ -1 ≤ l ∧ l ≤ 6 ∧ BoxR wi W1.heap.size r ∧ Below W1.heap.size W1 wi ∧ rr s.data.toList = rd2 l r (WL.drop k)) (fun _ i _ => (pcs 32 s).length + 1 - (intOf i).toNat)
      case atStart => exact ⟨1, -1, _, rfl, by omega, rfl, rfl, by omega, by omega, HX.out, HBi.out, RR3.out⟩
      case round =>
        clear HX HBi hBi RR2 RR3
        obtain ⟨k, l, r, ko, hk, rfl, rfl, l1, l6, hX, hBi, hR⟩ := hrel
        rename World => wo
        have HX := Lib.hid hX
        have HR := Lib.hid hR
        have HBo := Lib.hid hBi
        clear hX hR
        by_cases hlt : k < (pcs 32 s).length
        · have hlt2 : k + 1 < (pcs 32 s).length := by omega
          have cy := (hBi.cell (p := ⟨g, k, none⟩) hg1).trans (HC.out k hlt)
          have cz := (hBi.cell (p := ⟨g, k + 1, none⟩) hg1).trans (HC.out (k + 1) hlt2)
          obtain ⟨y, hy⟩ : ∃ y, y = (pcs 32 s)[k] := ⟨_, rfl⟩
          obtain ⟨z, hz⟩ : ∃ z, z = (pcs 32 s)[k + 1] := ⟨_, rfl⟩
          rw [← hy] at cy
          rw [← hz] at cz
          have ysz : y.size ≤ s.size := by rw [hy]; exact pcs_size 32 s _ (List.getElem_mem hlt)
          have zsz : z.size ≤ s.size := by rw [hz]; exact pcs_size 32 s _ (List.getElem_mem hlt2)
          have STEP : Hid (rr s.data.toList = if kk y.data.toList ≤ l then none else match ap (kk y.data.toList).toNat z.data.toList r with
              | some r' => rd2 (kk y.data.toList) r' (WL.drop (k + 2))
              | none => none) := Lib.hid (by
            rw [HR.out, rd2_at (by rw [LW]; exact hlt2), AT.out k hlt, AT.out (k + 1) hlt2, ← hy, ← hz]
            rfl)
          clear hy hz HR
          have HKo : Hid (∀ j : Nat, j < 7 → wo.cell? ⟨w.heap.size + 2, j, none⟩ = some (.string (tb (kw j)))) := Lib.hid (fun j hj => (hBi.cell (p := ⟨w.heap.size + 2, j, none⟩) (by show w.heap.size + 2 < W1.heap.size; omega)).trans (HK1.out j hj))
          have hgo : g < wo.heap.size := by have := hBi.size; omega
          have hwo : w.heap.size + 2 < wo.heap.size := by have := hBi.size; omega
          go_wp2
          go_loopw [11, 12] (fun kv j wi => ∃ d : Nat, d ≤ 7 ∧ j = .int .i64 d ∧ kv = .int .i64 (kfd y.data.toList d) ∧ Below wo.heap.size wo wi) (fun _ j _ => 7 - (intOf j).toNat)
          case atStart => exact ⟨0, by omega, rfl, by rw [kfd_zero], Below.refl _ _⟩
          case round =>
            obtain ⟨d, d7, rfl, rfl, hBj⟩ := hrel
            have cy1 := (hBj.cell (p := ⟨g, k, none⟩) hgo).trans cy
            have cz1 := (hBj.cell (p := ⟨g, k + 1, none⟩) hgo).trans cz
            by_cases hd : (d : Int) < 7
            · have cd := (hBj.cell (p := ⟨w.heap.size + 2, d, none⟩) hwo).trans (HKo.out d (by omega))
              by_cases he : kw d = y.data.toList
              · have e1 : ((tb (kw d)).toList == y.toList) = true := by rw [Lib.toList_data, Lib.toList_data, tb_data, he]; simp
                have N1 := Lib.hid (kfd_hit (by omega) he)
                clear he
                go_wp2_with fail
                go_quiet (fail)
                go_wp2
                go_roundw
                case rel => exact ⟨d + 1, by omega, by go_num, by rw [N1.out], below_drewN hBj _⟩
                case measure => simp [intOf]; omega
              · have e1 : ((tb (kw d)).toList == y.toList) = false := by rw [Lib.toList_data, Lib.toList_data, tb_data]; simpa using he
                have N1 := Lib.hid (kfd_skip he)
                clear he
                go_wp2_with fail
                go_quiet (fail)
                go_wp2
                go_roundw
                case rel => exact ⟨d + 1, by omega, by go_num, by rw [N1.out], below_drewN hBj _⟩
                case measure => simp [intOf]; omega
            · obtain rfl : d = 7 := by omega
              rw [kfd_all]
              obtain ⟨kq, hkq⟩ : ∃ kq, kq = kk y.data.toList := ⟨_, rfl⟩
              have kb := kk_bd y.data.toList
              rw [← hkq] at STEP kb
              rw [← hkq]
              clear hkq
              have BJ := HBo.out.trans (hBj.mono HBo.out.size)
              have BWJ := BW1.out.trans (BJ.mono BW1.out.size)
              have TJ := there_on T1.out BJ (by omega)
              by_cases hle : kq ≤ l
              · have N0 : Hid (pe s.data.toList = 2) := Lib.hid (pe_none (by rw [STEP.out, if_pos hle]))
                go_wp2_with (refine wpList_store_keep rfl 25 (.tmp 2) (.tmp 71) rfl w.heap.size #[.int .i64 0, .int .i64 0, .int .i64 0, .int .i64 0, .slice none 0 0, .slice none 0 0, .slice none 0 0, .slice none 0 0] rfl rfl TJ (by kernel_rfl) (by simp [Value.oneCell']) BWJ (Nat.le_refl _) ?_)
                intro W4 R4 B4 _
                have r0 := R4 0 _ rfl
                have r1 := R4 1 _ rfl
                have r2 := R4 2 _ rfl
                have r3 := R4 3 _ rfl
                have r4 := R4 4 _ rfl
                have r5 := R4 5 _ rfl
                have r6 := R4 6 _ rfl
                have r7 := R4 7 _ rfl
                simp only [Nat.zero_add] at r0 r1 r2 r3 r4 r5 r6 r7
                clear R4
                go_wp2
                refine bodyPost_ret (v := .tuple #[.agg #[.int .i64 0, .int .i64 0, .int .i64 0, .int .i64 0, .slice none 0 0, .slice none 0 0, .slice none 0 0, .slice none 0 0], .int .i64 2]) (by simp [results, Tryz.results10, go_sem, r0, r1, r2, r3, r4, r5, r6, r7]) rfl ⟨B4, Or.inl ⟨by rw [N0.out]; decide, by rw [N0.out]⟩⟩
              have STEP2 := Lib.hid (STEP.out.trans (if_neg hle))
              clear STEP
              have XJ := Lib.hid (HX.out.on hBj)
              rcases (by omega : kq = 0 ∨ kq = 1 ∨ kq = 2 ∨ kq = 3 ∨ kq = 4 ∨ kq = 5 ∨ kq = 6) with rfl | rfl | rfl | rfl | rfl | rfl | rfl
              · have KN := Lib.hid (refNumber z wr (by omega))
                have TJ2 := TJ
                have BWJ2 := BWJ
                obtain ⟨_, _, _, _, ⟨q0, q1, q2, q3, q4, q5, q6, q7⟩, hfz, _⟩ := id XJ.out
                have F1 := hfz 1
                have hl := XJ.out.lt
                clear hfz
                rcases hr : nr 4 z.data.toList with _ | n
                · have N0 : Hid (pe s.data.toList = 2) := Lib.hid (pe_none (by rw [STEP2.out]; simp [ap, hr]))
                  rw [hr, numA_none rfl] at KN
                  clear hr
                  go_wp2_with fail
                  refine KN.out.mono ?_
                  rintro e w2 ⟨rfl, hw⟩
                  subst hw
                  have TS := there_set TJ2 (o := 1) (x := .int .i64 0) (b := W1.heap.size) (by omega)
                  have BS := BWJ2.setCell (p := ⟨W1.heap.size, 1, none⟩) (by show w.heap.size ≤ W1.heap.size; omega) (.int .i64 0)
                  go_wp2_with (refine wpList_store_keep rfl 25 (.tmp 2) (.tmp 169) rfl w.heap.size #[.int .i64 0, .int .i64 0, .int .i64 0, .int .i64 0, .slice none 0 0, .slice none 0 0, .slice none 0 0, .slice none 0 0] rfl rfl TS (by kernel_rfl) (by simp [Value.oneCell']) BS (Nat.le_refl _) ?_)
                  intro W4 R4 B4 _
                  have r0 := R4 0 _ rfl
                  have r1 := R4 1 _ rfl
                  have r2 := R4 2 _ rfl
                  have r3 := R4 3 _ rfl
                  have r4 := R4 4 _ rfl
                  have r5 := R4 5 _ rfl
                  have r6 := R4 6 _ rfl
                  have r7 := R4 7 _ rfl
                  simp only [Nat.zero_add] at r0 r1 r2 r3 r4 r5 r6 r7
                  clear R4
                  go_wp2
                  refine bodyPost_ret (v := .tuple #[.agg #[.int .i64 0, .int .i64 0, .int .i64 0, .int .i64 0, .slice none 0 0, .slice none 0 0, .slice none 0 0, .slice none 0 0], .int .i64 2]) (by simp [results, Tryz.results10, go_sem, r0, r1, r2, r3, r4, r5, r6, r7]) rfl ⟨B4, Or.inl ⟨by rw [N0.out]; decide, by rw [N0.out]⟩⟩
                · rw [hr, numA_some rfl] at KN
                  rcases hn : (n != 1) with _ | _
                  · have hn' : n = 1 := by simpa using hn
                    have N0 : Hid (pe s.data.toList = 2) := Lib.hid (pe_none (by rw [STEP2.out]; simp [ap, hr, hn']))
                    clear hr hn'
                    go_wp2_with fail
                    refine KN.out.mono ?_
                    rintro e w2 ⟨rfl, hw⟩
                    subst hw
                    have TS := there_set TJ2 (o := 1) (x := .int .i64 n) (b := W1.heap.size) (by omega)
                    have BS := BWJ2.setCell (p := ⟨W1.heap.size, 1, none⟩) (by show w.heap.size ≤ W1.heap.size; omega) (.int .i64 n)
                    go_wp2_with (refine wpList_store_keep rfl 25 (.tmp 2) (.tmp 169) rfl w.heap.size #[.int .i64 0, .int .i64 0, .int .i64 0, .int .i64 0, .slice none 0 0, .slice none 0 0, .slice none 0 0, .slice none 0 0] rfl rfl TS (by kernel_rfl) (by simp [Value.oneCell']) BS (Nat.le_refl _) ?_)
                    intro W4 R4 B4 _
                    have r0 := R4 0 _ rfl
                    have r1 := R4 1 _ rfl
                    have r2 := R4 2 _ rfl
                    have r3 := R4 3 _ rfl
                    have r4 := R4 4 _ rfl
                    have r5 := R4 5 _ rfl
                    have r6 := R4 6 _ rfl
                    have r7 := R4 7 _ rfl
                    simp only [Nat.zero_add] at r0 r1 r2 r3 r4 r5 r6 r7
                    clear R4
                    go_wp2
                    refine bodyPost_ret (v := .tuple #[.agg #[.int .i64 0, .int .i64 0, .int .i64 0, .int .i64 0, .slice none 0 0, .slice none 0 0, .slice none 0 0, .slice none 0 0], .int .i64 2]) (by simp [results, Tryz.results10, go_sem, r0, r1, r2, r3, r4, r5, r6, r7]) rfl ⟨B4, Or.inl ⟨by rw [N0.out]; decide, by rw [N0.out]⟩⟩
                  · have hn' : ¬ n = 1 := by simpa using hn
                    have N1 : Hid (rr s.data.toList = rd2 0 { r with every := n } (WL.drop (k + 2))) := Lib.hid (by rw [STEP2.out]; simp [ap, hr, hn'])
                    clear hr hn'
                    go_wp2_with fail
                    refine KN.out.mono ?_
                    rintro e w2 ⟨rfl, hw⟩
                    subst hw
                    go_wp2
                    go_roundw
                    case rel => (repeat apply Exists.intro); refine ⟨?_, rfl⟩; exact ⟨k + 2, 0, _, by omega, by omega, by go_num, rfl, by omega, by omega, XJ.out.every n, BJ.setCell (Nat.le_refl _) _, N1.out⟩
                    case measure => simp [intOf]; omega
              · have KN := Lib.hid (refNumber z wr (by omega))
                have TJ2 := TJ
                have BWJ2 := BWJ
                obtain ⟨_, _, _, _, ⟨q0, q1, q2, q3, q4, q5, q6, q7⟩, hfz, _⟩ := id XJ.out
                have F1 := hfz 2
                have hl := XJ.out.lt
                clear hfz
                rcases hr : nr 4 z.data.toList with _ | n
                · have N0 : Hid (pe s.data.toList = 2) := Lib.hid (pe_none (by rw [STEP2.out]; simp [ap, hr]))
                  rw [hr, numA_none rfl] at KN
                  clear hr
                  go_wp2_with fail
                  refine KN.out.mono ?_
                  rintro e w2 ⟨rfl, hw⟩
                  subst hw
                  have TS := there_set TJ2 (o := 2) (x := .int .i64 0) (b := W1.heap.size) (by omega)
                  have BS := BWJ2.setCell (p := ⟨W1.heap.size, 2, none⟩) (by show w.heap.size ≤ W1.heap.size; omega) (.int .i64 0)
                  go_wp2_with (refine wpList_store_keep rfl 25 (.tmp 2) (.tmp 169) rfl w.heap.size #[.int .i64 0, .int .i64 0, .int .i64 0, .int .i64 0, .slice none 0 0, .slice none 0 0, .slice none 0 0, .slice none 0 0] rfl rfl TS (by kernel_rfl) (by simp [Value.oneCell']) BS (Nat.le_refl _) ?_)
                  intro W4 R4 B4 _
                  have r0 := R4 0 _ rfl
                  have r1 := R4 1 _ rfl
                  have r2 := R4 2 _ rfl
                  have r3 := R4 3 _ rfl
                  have r4 := R4 4 _ rfl
                  have r5 := R4 5 _ rfl
                  have r6 := R4 6 _ rfl
                  have r7 := R4 7 _ rfl
                  simp only [Nat.zero_add] at r0 r1 r2 r3 r4 r5 r6 r7
                  clear R4
                  go_wp2
                  refine bodyPost_ret (v := .tuple #[.agg #[.int .i64 0, .int .i64 0, .int .i64 0, .int .i64 0, .slice none 0 0, .slice none 0 0, .slice none 0 0, .slice none 0 0], .int .i64 2]) (by simp [results, Tryz.results10, go_sem, r0, r1, r2, r3, r4, r5, r6, r7]) rfl ⟨B4, Or.inl ⟨by rw [N0.out]; decide, by rw [N0.out]⟩⟩
                · rw [hr, numA_some rfl] at KN
                  rcases hn : (n != 0) with _ | _
                  · have hn' : n = 0 := by simpa using hn
                    have N0 : Hid (pe s.data.toList = 2) := Lib.hid (pe_none (by rw [STEP2.out]; simp [ap, hr, hn']))
                    clear hr hn'
                    go_wp2_with fail
                    refine KN.out.mono ?_
                    rintro e w2 ⟨rfl, hw⟩
                    subst hw
                    have TS := there_set TJ2 (o := 2) (x := .int .i64 n) (b := W1.heap.size) (by omega)
                    have BS := BWJ2.setCell (p := ⟨W1.heap.size, 2, none⟩) (by show w.heap.size ≤ W1.heap.size; omega) (.int .i64 n)
                    go_wp2_with (refine wpList_store_keep rfl 25 (.tmp 2) (.tmp 169) rfl w.heap.size #[.int .i64 0, .int .i64 0, .int .i64 0, .int .i64 0, .slice none 0 0, .slice none 0 0, .slice none 0 0, .slice none 0 0] rfl rfl TS (by kernel_rfl) (by simp [Value.oneCell']) BS (Nat.le_refl _) ?_)
                    intro W4 R4 B4 _
                    have r0 := R4 0 _ rfl
                    have r1 := R4 1 _ rfl
                    have r2 := R4 2 _ rfl
                    have r3 := R4 3 _ rfl
                    have r4 := R4 4 _ rfl
                    have r5 := R4 5 _ rfl
                    have r6 := R4 6 _ rfl
                    have r7 := R4 7 _ rfl
                    simp only [Nat.zero_add] at r0 r1 r2 r3 r4 r5 r6 r7
                    clear R4
                    go_wp2
                    refine bodyPost_ret (v := .tuple #[.agg #[.int .i64 0, .int .i64 0, .int .i64 0, .int .i64 0, .slice none 0 0, .slice none 0 0, .slice none 0 0, .slice none 0 0], .int .i64 2]) (by simp [results, Tryz.results10, go_sem, r0, r1, r2, r3, r4, r5, r6, r7]) rfl ⟨B4, Or.inl ⟨by rw [N0.out]; decide, by rw [N0.out]⟩⟩
                  · have hn' : ¬ n = 0 := by simpa using hn
                    have N1 : Hid (rr s.data.toList = rd2 1 { r with count := n } (WL.drop (k + 2))) := Lib.hid (by rw [STEP2.out]; simp [ap, hr, hn'])
                    clear hr hn'
                    go_wp2_with fail
                    refine KN.out.mono ?_
                    rintro e w2 ⟨rfl, hw⟩
                    subst hw
                    go_wp2
                    go_roundw
                    case rel => (repeat apply Exists.intro); refine ⟨?_, rfl⟩; exact ⟨k + 2, 1, _, by omega, by omega, by go_num, rfl, by omega, by omega, XJ.out.count n, BJ.setCell (Nat.le_refl _) _, N1.out⟩
                    case measure => simp [intOf]; omega
              · have KN := Lib.hid (refNumber z wr (by omega))
                have KL := Lib.hid (readDate_any z wr)
                have KN2 : Hid (∃ n b, numA (nr 4 z.data.toList) = .tuple #[.int .i64 n, .bool b]) := Lib.hid ⟨_, _, rfl⟩
                obtain ⟨n, b, hnb⟩ := KN2.out
                rw [hnb] at KN
                clear hnb KN2
                go_wp2_with fail
                refine KN.out.mono ?_
                rintro e w2 ⟨rfl, hw⟩
                subst hw
                go_wp2_with fail
                refine KL.out.mono ?_
                rintro e w3 ⟨⟨d, b, rfl, hv⟩, hb⟩
                have wl : w.heap.size < w2.heap.size := by have := BJ.size; omega
                have TJ2 := there_on TJ hb wl
                have BWJ2 := BWJ.trans (hb.mono BWJ.size)
                have BJ2 := BJ.trans (hb.mono BJ.size)
                have XK := Lib.hid (XJ.out.on hb)
                have brl := XJ.out.lt
                obtain ⟨_, _, _, _, ⟨q0, q1, q2, q3, q4, q5, q6, q7⟩, hfz, _⟩ := id XK.out
                have F1 := hfz 3
                have hl := XK.out.lt
                clear hfz hb
                rcases hv with ⟨ho, rfl | ⟨rfl, hd0⟩⟩ | ⟨ho, rfl, hd1⟩
                · have N0 : Hid (pe s.data.toList = 2) := Lib.hid (pe_none (by rw [STEP2.out]; simp [ap, ho]))
                  clear ho
                  have TS := there_set TJ2 (o := 3) (x := .int .i64 d) (b := W1.heap.size) (by omega)
                  have BS := BWJ2.setCell (p := ⟨W1.heap.size, 3, none⟩) (by show w.heap.size ≤ W1.heap.size; omega) (.int .i64 d)
                  go_wp2_with (refine wpList_store_keep rfl 25 (.tmp 2) (.tmp 169) rfl w.heap.size #[.int .i64 0, .int .i64 0, .int .i64 0, .int .i64 0, .slice none 0 0, .slice none 0 0, .slice none 0 0, .slice none 0 0] rfl rfl TS (by kernel_rfl) (by simp [Value.oneCell']) BS (Nat.le_refl _) ?_)
                  intro W4 R4 B4 _
                  have r0 := R4 0 _ rfl
                  have r1 := R4 1 _ rfl
                  have r2 := R4 2 _ rfl
                  have r3 := R4 3 _ rfl
                  have r4 := R4 4 _ rfl
                  have r5 := R4 5 _ rfl
                  have r6 := R4 6 _ rfl
                  have r7 := R4 7 _ rfl
                  simp only [Nat.zero_add] at r0 r1 r2 r3 r4 r5 r6 r7
                  clear R4
                  go_wp2
                  refine bodyPost_ret (v := .tuple #[.agg #[.int .i64 0, .int .i64 0, .int .i64 0, .int .i64 0, .slice none 0 0, .slice none 0 0, .slice none 0 0, .slice none 0 0], .int .i64 2]) (by simp [results, Tryz.results10, go_sem, r0, r1, r2, r3, r4, r5, r6, r7]) rfl ⟨B4, Or.inl ⟨by rw [N0.out]; decide, by rw [N0.out]⟩⟩
                · have N0 : Hid (pe s.data.toList = 2) := Lib.hid (pe_none (by rw [STEP2.out]; simp [ap, ho]))
                  clear ho
                  have TS := there_set TJ2 (o := 3) (x := .int .i64 d) (b := W1.heap.size) (by omega)
                  have BS := BWJ2.setCell (p := ⟨W1.heap.size, 3, none⟩) (by show w.heap.size ≤ W1.heap.size; omega) (.int .i64 d)
                  go_wp2_with (refine wpList_store_keep rfl 25 (.tmp 2) (.tmp 169) rfl w.heap.size #[.int .i64 0, .int .i64 0, .int .i64 0, .int .i64 0, .slice none 0 0, .slice none 0 0, .slice none 0 0, .slice none 0 0] rfl rfl TS (by kernel_rfl) (by simp [Value.oneCell']) BS (Nat.le_refl _) ?_)
                  intro W4 R4 B4 _
                  have r0 := R4 0 _ rfl
                  have r1 := R4 1 _ rfl
                  have r2 := R4 2 _ rfl
                  have r3 := R4 3 _ rfl
                  have r4 := R4 4 _ rfl
                  have r5 := R4 5 _ rfl
                  have r6 := R4 6 _ rfl
                  have r7 := R4 7 _ rfl
                  simp only [Nat.zero_add] at r0 r1 r2 r3 r4 r5 r6 r7
                  clear R4
                  go_wp2
                  refine bodyPost_ret (v := .tuple #[.agg #[.int .i64 0, .int .i64 0, .int .i64 0, .int .i64 0, .slice none 0 0, .slice none 0 0, .slice none 0 0, .slice none 0 0], .int .i64 2]) (by simp [results, Tryz.results10, go_sem, r0, r1, r2, r3, r4, r5, r6, r7]) rfl ⟨B4, Or.inl ⟨by rw [N0.out]; decide, by rw [N0.out]⟩⟩
                · have N1 : Hid (rr s.data.toList = rd2 2 { r with till := d } (WL.drop (k + 2))) := Lib.hid (by rw [STEP2.out]; simp [ap, ho])
                  have XM := Lib.hid (XK.out.till d)
                  clear ho
                  go_wp2
                  go_roundw
                  case rel => (repeat apply Exists.intro); refine ⟨?_, rfl⟩; exact ⟨k + 2, 2, _, by omega, by omega, by go_num, rfl, by omega, by omega, XM.out, BJ2.setCell (Nat.le_refl _) _, N1.out⟩
                  case measure => simp [intOf]; omega
              · have KN := Lib.hid (refNumber z wr (by omega))
                have KL := Lib.hid (refNumbers z wr (by omega))
                have KN2 : Hid (∃ n b, numA (nr 4 z.data.toList) = .tuple #[.int .i64 n, .bool b]) := Lib.hid ⟨_, _, rfl⟩
                obtain ⟨n, b, hnb⟩ := KN2.out
                rw [hnb] at KN
                clear hnb KN2
                go_wp2_with fail
                refine KN.out.mono ?_
                rintro e w2 ⟨rfl, hw⟩
                subst hw
                go_wp2_with fail
                refine KL.out.mono ?_
                rintro e w3 ⟨hb, hv⟩
                have wl : w.heap.size < w2.heap.size := by have := BJ.size; omega
                have TJ2 := there_on TJ hb wl
                have BWJ2 := BWJ.trans (hb.mono BWJ.size)
                have BJ2 := BJ.trans (hb.mono BJ.size)
                have XK := Lib.hid (XJ.out.on hb)
                have brl := XJ.out.lt
                obtain ⟨_, _, _, _, ⟨q0, q1, q2, q3, q4, q5, q6, q7⟩, hfz, _⟩ := id XK.out
                have F1 := hfz 4
                have hl := XK.out.lt
                clear hfz hb
                rcases hv with ⟨ho, rfl⟩ | ⟨xs, v, ho, rfl, hI, hN⟩
                · have N0 : Hid (pe s.data.toList = 2) := Lib.hid (pe_none (by rw [STEP2.out]; simp [ap, ho]))
                  clear ho
                  have TS := there_set TJ2 (o := 4) (x := .slice none 0 0) (b := W1.heap.size) (by omega)
                  have BS := BWJ2.setCell (p := ⟨W1.heap.size, 4, none⟩) (by show w.heap.size ≤ W1.heap.size; omega) (.slice none 0 0)
                  go_wp2_with (refine wpList_store_keep rfl 25 (.tmp 2) (.tmp 169) rfl w.heap.size #[.int .i64 0, .int .i64 0, .int .i64 0, .int .i64 0, .slice none 0 0, .slice none 0 0, .slice none 0 0, .slice none 0 0] rfl rfl TS (by kernel_rfl) (by simp [Value.oneCell']) BS (Nat.le_refl _) ?_)
                  intro W4 R4 B4 _
                  have r0 := R4 0 _ rfl
                  have r1 := R4 1 _ rfl
                  have r2 := R4 2 _ rfl
                  have r3 := R4 3 _ rfl
                  have r4 := R4 4 _ rfl
                  have r5 := R4 5 _ rfl
                  have r6 := R4 6 _ rfl
                  have r7 := R4 7 _ rfl
                  simp only [Nat.zero_add] at r0 r1 r2 r3 r4 r5 r6 r7
                  clear R4
                  go_wp2
                  refine bodyPost_ret (v := .tuple #[.agg #[.int .i64 0, .int .i64 0, .int .i64 0, .int .i64 0, .slice none 0 0, .slice none 0 0, .slice none 0 0, .slice none 0 0], .int .i64 2]) (by simp [results, Tryz.results10, go_sem, r0, r1, r2, r3, r4, r5, r6, r7]) rfl ⟨B4, Or.inl ⟨by rw [N0.out]; decide, by rw [N0.out]⟩⟩
                · have N1 : Hid (rr s.data.toList = rd2 3 { r with months := xs } (WL.drop (k + 2))) := Lib.hid (by rw [STEP2.out]; simp [ap, ho])
                  have XM := Lib.hid (XK.out.months v xs hI (Far.new hN brl))
                  obtain ⟨a', c', rfl, _⟩ := id hI
                  clear ho hI hN
                  go_wp2
                  go_roundw
                  case rel => (repeat apply Exists.intro); refine ⟨?_, rfl⟩; exact ⟨k + 2, 3, _, by omega, by omega, by go_num, rfl, by omega, by omega, XM.out, BJ2.setCell (Nat.le_refl _) _, N1.out⟩
                  case measure => simp [intOf]; omega
              · have KN := Lib.hid (refNumber z wr (by omega))
                have KL := Lib.hid (refNumbers z wr (by omega))
                have KN2 : Hid (∃ n b, numA (nr 4 z.data.toList) = .tuple #[.int .i64 n, .bool b]) := Lib.hid ⟨_, _, rfl⟩
                obtain ⟨n, b, hnb⟩ := KN2.out
                rw [hnb] at KN
                clear hnb KN2
                go_wp2_with fail
                refine KN.out.mono ?_
                rintro e w2 ⟨rfl, hw⟩
                subst hw
                go_wp2_with fail
                refine KL.out.mono ?_
                rintro e w3 ⟨hb, hv⟩
                have wl : w.heap.size < w2.heap.size := by have := BJ.size; omega
                have TJ2 := there_on TJ hb wl
                have BWJ2 := BWJ.trans (hb.mono BWJ.size)
                have BJ2 := BJ.trans (hb.mono BJ.size)
                have XK := Lib.hid (XJ.out.on hb)
                have brl := XJ.out.lt
                obtain ⟨_, _, _, _, ⟨q0, q1, q2, q3, q4, q5, q6, q7⟩, hfz, _⟩ := id XK.out
                have F1 := hfz 5
                have hl := XK.out.lt
                clear hfz hb
                rcases hv with ⟨ho, rfl⟩ | ⟨xs, v, ho, rfl, hI, hN⟩
                · have N0 : Hid (pe s.data.toList = 2) := Lib.hid (pe_none (by rw [STEP2.out]; simp [ap, ho]))
                  clear ho
                  have TS := there_set TJ2 (o := 5) (x := .slice none 0 0) (b := W1.heap.size) (by omega)
                  have BS := BWJ2.setCell (p := ⟨W1.heap.size, 5, none⟩) (by show w.heap.size ≤ W1.heap.size; omega) (.slice none 0 0)
                  go_wp2_with (refine wpList_store_keep rfl 25 (.tmp 2) (.tmp 169) rfl w.heap.size #[.int .i64 0, .int .i64 0, .int .i64 0, .int .i64 0, .slice none 0 0, .slice none 0 0, .slice none 0 0, .slice none 0 0] rfl rfl TS (by kernel_rfl) (by simp [Value.oneCell']) BS (Nat.le_refl _) ?_)
                  intro W4 R4 B4 _
                  have r0 := R4 0 _ rfl
                  have r1 := R4 1 _ rfl
                  have r2 := R4 2 _ rfl
                  have r3 := R4 3 _ rfl
                  have r4 := R4 4 _ rfl
                  have r5 := R4 5 _ rfl
                  have r6 := R4 6 _ rfl
                  have r7 := R4 7 _ rfl
                  simp only [Nat.zero_add] at r0 r1 r2 r3 r4 r5 r6 r7
                  clear R4
                  go_wp2
                  refine bodyPost_ret (v := .tuple #[.agg #[.int .i64 0, .int .i64 0, .int .i64 0, .int .i64 0, .slice none 0 0, .slice none 0 0, .slice none 0 0, .slice none 0 0], .int .i64 2]) (by simp [results, Tryz.results10, go_sem, r0, r1, r2, r3, r4, r5, r6, r7]) rfl ⟨B4, Or.inl ⟨by rw [N0.out]; decide, by rw [N0.out]⟩⟩
                · have N1 : Hid (rr s.data.toList = rd2 4 { r with days := xs } (WL.drop (k + 2))) := Lib.hid (by rw [STEP2.out]; simp [ap, ho])
                  have XM := Lib.hid (XK.out.days v xs hI (Far.new hN brl))
                  obtain ⟨a', c', rfl, _⟩ := id hI
                  clear ho hI hN
                  go_wp2
                  go_roundw
                  case rel => (repeat apply Exists.intro); refine ⟨?_, rfl⟩; exact ⟨k + 2, 4, _, by omega, by omega, by go_num, rfl, by omega, by omega, XM.out, BJ2.setCell (Nat.le_refl _) _, N1.out⟩
                  case measure => simp [intOf]; omega
              · have KN := Lib.hid (refNumber z wr (by omega))
                have KL := Lib.hid (refNths z wr (by omega))
                have KN2 : Hid (∃ n b, numA (nr 4 z.data.toList) = .tuple #[.int .i64 n, .bool b]) := Lib.hid ⟨_, _, rfl⟩
                obtain ⟨n, b, hnb⟩ := KN2.out
                rw [hnb] at KN
                clear hnb KN2
                go_wp2_with fail
                refine KN.out.mono ?_
                rintro e w2 ⟨rfl, hw⟩
                subst hw
                go_wp2_with fail
                refine KL.out.mono ?_
                rintro e w3 ⟨hb, hv⟩
                have wl : w.heap.size < w2.heap.size := by have := BJ.size; omega
                have TJ2 := there_on TJ hb wl
                have BWJ2 := BWJ.trans (hb.mono BWJ.size)
                have BJ2 := BJ.trans (hb.mono BJ.size)
                have XK := Lib.hid (XJ.out.on hb)
                have brl := XJ.out.lt
                obtain ⟨_, _, _, _, ⟨q0, q1, q2, q3, q4, q5, q6, q7⟩, hfz, _⟩ := id XK.out
                have F1 := hfz 6
                have hl := XK.out.lt
                clear hfz hb
                rcases hv with ⟨ho, rfl⟩ | ⟨xs, v, ho, rfl, hI, hN⟩
                · have N0 : Hid (pe s.data.toList = 2) := Lib.hid (pe_none (by rw [STEP2.out]; simp [ap, ho]))
                  clear ho
                  have TS := there_set TJ2 (o := 6) (x := .slice none 0 0) (b := W1.heap.size) (by omega)
                  have BS := BWJ2.setCell (p := ⟨W1.heap.size, 6, none⟩) (by show w.heap.size ≤ W1.heap.size; omega) (.slice none 0 0)
                  go_wp2_with (refine wpList_store_keep rfl 25 (.tmp 2) (.tmp 169) rfl w.heap.size #[.int .i64 0, .int .i64 0, .int .i64 0, .int .i64 0, .slice none 0 0, .slice none 0 0, .slice none 0 0, .slice none 0 0] rfl rfl TS (by kernel_rfl) (by simp [Value.oneCell']) BS (Nat.le_refl _) ?_)
                  intro W4 R4 B4 _
                  have r0 := R4 0 _ rfl
                  have r1 := R4 1 _ rfl
                  have r2 := R4 2 _ rfl
                  have r3 := R4 3 _ rfl
                  have r4 := R4 4 _ rfl
                  have r5 := R4 5 _ rfl
                  have r6 := R4 6 _ rfl
                  have r7 := R4 7 _ rfl
                  simp only [Nat.zero_add] at r0 r1 r2 r3 r4 r5 r6 r7
                  clear R4
                  go_wp2
                  refine bodyPost_ret (v := .tuple #[.agg #[.int .i64 0, .int .i64 0, .int .i64 0, .int .i64 0, .slice none 0 0, .slice none 0 0, .slice none 0 0, .slice none 0 0], .int .i64 2]) (by simp [results, Tryz.results10, go_sem, r0, r1, r2, r3, r4, r5, r6, r7]) rfl ⟨B4, Or.inl ⟨by rw [N0.out]; decide, by rw [N0.out]⟩⟩
                · have N1 : Hid (rr s.data.toList = rd2 5 { r with weeks := xs } (WL.drop (k + 2))) := Lib.hid (by rw [STEP2.out]; simp [ap, ho])
                  have XM := Lib.hid (XK.out.weeks v xs hI (Far.new hN brl))
                  obtain ⟨a', c', rfl, _⟩ := id hI
                  clear ho hI hN
                  go_wp2
                  go_roundw
                  case rel => (repeat apply Exists.intro); refine ⟨?_, rfl⟩; exact ⟨k + 2, 5, _, by omega, by omega, by go_num, rfl, by omega, by omega, XM.out, BJ2.setCell (Nat.le_refl _) _, N1.out⟩
                  case measure => simp [intOf]; omega
              · have KN := Lib.hid (refNumber z wr (by omega))
                have KL := Lib.hid (refNumbers z wr (by omega))
                have KN2 : Hid (∃ n b, numA (nr 4 z.data.toList) = .tuple #[.int .i64 n, .bool b]) := Lib.hid ⟨_, _, rfl⟩
                obtain ⟨n, b, hnb⟩ := KN2.out
                rw [hnb] at KN
                clear hnb KN2
                go_wp2_with fail
                refine KN.out.mono ?_
                rintro e w2 ⟨rfl, hw⟩
                subst hw
                go_wp2_with fail
                refine KL.out.mono ?_
                rintro e w3 ⟨hb, hv⟩
                have wl : w.heap.size < w2.heap.size := by have := BJ.size; omega
                have TJ2 := there_on TJ hb wl
                have BWJ2 := BWJ.trans (hb.mono BWJ.size)
                have BJ2 := BJ.trans (hb.mono BJ.size)
                have XK := Lib.hid (XJ.out.on hb)
                have brl := XJ.out.lt
                obtain ⟨_, _, _, _, ⟨q0, q1, q2, q3, q4, q5, q6, q7⟩, hfz, _⟩ := id XK.out
                have F1 := hfz 7
                have hl := XK.out.lt
                clear hfz hb
                rcases hv with ⟨ho, rfl⟩ | ⟨xs, v, ho, rfl, hI, hN⟩
                · have N0 : Hid (pe s.data.toList = 2) := Lib.hid (pe_none (by rw [STEP2.out]; simp [ap, ho]))
                  clear ho
                  have TS := there_set TJ2 (o := 7) (x := .slice none 0 0) (b := W1.heap.size) (by omega)
                  have BS := BWJ2.setCell (p := ⟨W1.heap.size, 7, none⟩) (by show w.heap.size ≤ W1.heap.size; omega) (.slice none 0 0)
                  go_wp2_with (refine wpList_store_keep rfl 25 (.tmp 2) (.tmp 169) rfl w.heap.size #[.int .i64 0, .int .i64 0, .int .i64 0, .int .i64 0, .slice none 0 0, .slice none 0 0, .slice none 0 0, .slice none 0 0] rfl rfl TS (by kernel_rfl) (by simp [Value.oneCell']) BS (Nat.le_refl _) ?_)
                  intro W4 R4 B4 _
                  have r0 := R4 0 _ rfl
                  have r1 := R4 1 _ rfl
                  have r2 := R4 2 _ rfl
                  have r3 := R4 3 _ rfl
                  have r4 := R4 4 _ rfl
                  have r5 := R4 5 _ rfl
                  have r6 := R4 6 _ rfl
                  have r7 := R4 7 _ rfl
                  simp only [Nat.zero_add] at r0 r1 r2 r3 r4 r5 r6 r7
                  clear R4
                  go_wp2
                  refine bodyPost_ret (v := .tuple #[.agg #[.int .i64 0, .int .i64 0, .int .i64 0, .int .i64 0, .slice none 0 0, .slice none 0 0, .slice none 0 0, .slice none 0 0], .int .i64 2]) (by simp [results, Tryz.results10, go_sem, r0, r1, r2, r3, r4, r5, r6, r7]) rfl ⟨B4, Or.inl ⟨by rw [N0.out]; decide, by rw [N0.out]⟩⟩
                · have N1 : Hid (rr s.data.toList = rd2 6 { r with pick := xs } (WL.drop (k + 2))) := Lib.hid (by rw [STEP2.out]; simp [ap, ho])
                  have XM := Lib.hid (XK.out.pick v xs hI (Far.new hN brl))
                  obtain ⟨a', c', rfl, _⟩ := id hI
                  clear ho hI hN
                  go_wp2
                  go_roundw
                  case rel => (repeat apply Exists.intro); refine ⟨?_, rfl⟩; exact ⟨k + 2, 6, _, by omega, by omega, by go_num, rfl, by omega, by omega, XM.out, BJ2.setCell (Nat.le_refl _) _, N1.out⟩
                  case measure => simp [intOf]; omega
        · have HO : Hid (rr s.data.toList = some r) := Lib.hid (by rw [HR.out, List.drop_of_length_le (by rw [LW]; omega)]; rfl)
          clear HR
          have hl := HX.out.lt
          obtain ⟨vm, vd, vw, vp, hRB, hfz, ⟨m1, m2⟩, ⟨d1, d2⟩, ⟨k1, k2⟩, p1, p2⟩ := HX.out
          clear hfz HX
          obtain ⟨am, cm, rfl, _⟩ := id m1
          obtain ⟨ad, cd, rfl, _⟩ := id d1
          obtain ⟨aw, cw, rfl, _⟩ := id k1
          obtain ⟨ap, cp, rfl, _⟩ := id p1
          have KC := Lib.hid (refRule_any r _ _ _ _ wo m1 d1 k1 p1)
          have HRB := Lib.hid hRB
          have KI := Lib.hid (And.intro (And.intro m1 m2) (And.intro (And.intro d1 d2) (And.intro (And.intro k1 k2) (And.intro p1 p2))))
          clear m1 m2 d1 d2 k1 k2 p1 p2
          obtain ⟨x0, x1, x2, x3, x4, x5, x6, x7⟩ := hRB
          have BW2 := BW1.out.trans (hBi.mono BW1.out.size)
          have T2 := there_on T1.out hBi (by omega)
          have wl : w.heap.size < wo.heap.size := by have := hBi.size; omega
          go_wp2_with fail
          refine KC.out.mono ?_
          rintro e w3 ⟨rfl, hb3⟩
          have T5 := there_on T2 hb3 wl
          have BW5 := BW2.trans (hb3.mono BW2.size)
          have hl3 : W1.heap.size < w3.heap.size := by have := hb3.size; omega
          clear x0 x1 x2 x3 x4 x5 x6 x7
          obtain ⟨x0, x1, x2, x3, x4, x5, x6, x7⟩ := HRB.out.on hb3
          rcases hz : (rf r != 0) with _ | _
          · have hz' : rf r = 0 := by simpa using hz
            have KJ : Hid (∀ W4 : World, (∀ g o, w.heap.size < g → W4.cell? ⟨g, o, none⟩ = w3.cell? ⟨g, o, none⟩) → RuleIn W4 (.agg #[.int .i64 r.freq, .int .i64 r.every, .int .i64 r.count, .int .i64 r.till, .slice am r.months.length cm, .slice ad r.days.length cd, .slice aw r.weeks.length cw, .slice ap r.pick.length cp]) r) := Lib.hid (fun W4 q => by
              obtain ⟨⟨m1, m2⟩, ⟨d1, d2⟩, ⟨k1, k2⟩, p1, p2⟩ := KI.out
              have q' : ∀ g o, W1.heap.size < g → W4.cell? ⟨g, o, none⟩ = w3.cell? ⟨g, o, none⟩ := fun g o h => q g o (by omega)
              exact ⟨_, _, _, _, rfl, (m1.on hb3).keep m2 q', (d1.on hb3).keep d2 q', (k1.on hb3).keep k2 q', (p1.on hb3).keep p2 q'⟩)
            have HZ := Lib.hid hz'
            clear hz' KI KC HRB hb3
            go_wp2_with (refine wpList_store_keep rfl 25 (.tmp 2) (.tmp 176) rfl w.heap.size #[.int .i64 r.freq, .int .i64 r.every, .int .i64 r.count, .int .i64 r.till, .slice am r.months.length cm, .slice ad r.days.length cd, .slice aw r.weeks.length cw, .slice ap r.pick.length cp] rfl rfl T5 (by kernel_rfl) (by simp [Value.oneCell']) BW5 (Nat.le_refl _) ?_)
            intro W4 R4 B4 Q4
            have RI := Lib.hid (KJ.out W4 Q4)
            have r0 := R4 0 _ rfl
            have r1 := R4 1 _ rfl
            have r2 := R4 2 _ rfl
            have r3 := R4 3 _ rfl
            have r4 := R4 4 _ rfl
            have r5 := R4 5 _ rfl
            have r6 := R4 6 _ rfl
            have r7 := R4 7 _ rfl
            simp only [Nat.zero_add] at r0 r1 r2 r3 r4 r5 r6 r7
            clear R4 Q4
            go_wp2
            refine bodyPost_ret (v := .tuple #[.agg #[.int .i64 r.freq, .int .i64 r.every, .int .i64 r.count, .int .i64 r.till, .slice am r.months.length cm, .slice ad r.days.length cd, .slice aw r.weeks.length cw, .slice ap r.pick.length cp], .int .i64 0]) (by simp [results, Tryz.results10, go_sem, r0, r1, r2, r3, r4, r5, r6, r7]) rfl ⟨B4, Or.inr ⟨_, _, HO.out, HZ.out, rfl, RI.out⟩⟩
          · have hz' : ¬ rf r = 0 := by simpa using hz
            have N1 := Lib.hid (pe_some HO.out)
            have HZ := Lib.hid hz'
            clear hz' KI KC HRB hb3
            go_wp2_with (refine wpList_store_keep rfl 25 (.tmp 2) (.tmp 174) rfl w.heap.size #[.int .i64 0, .int .i64 0, .int .i64 0, .int .i64 0, .slice none 0 0, .slice none 0 0, .slice none 0 0, .slice none 0 0] rfl rfl T5 (by kernel_rfl) (by simp [Value.oneCell']) BW5 (Nat.le_refl _) ?_)
            intro W4 R4 B4 _
            have r0 := R4 0 _ rfl
            have r1 := R4 1 _ rfl
            have r2 := R4 2 _ rfl
            have r3 := R4 3 _ rfl
            have r4 := R4 4 _ rfl
            have r5 := R4 5 _ rfl
            have r6 := R4 6 _ rfl
            have r7 := R4 7 _ rfl
            simp only [Nat.zero_add] at r0 r1 r2 r3 r4 r5 r6 r7
            clear R4
            go_wp2
            refine bodyPost_ret (v := .tuple #[.agg #[.int .i64 0, .int .i64 0, .int .i64 0, .int .i64 0, .slice none 0 0, .slice none 0 0, .slice none 0 0, .slice none 0 0], .int .i64 (rf r)]) (by simp [results, Tryz.results10, go_sem, r0, r1, r2, r3, r4, r5, r6, r7]) rfl ⟨B4, Or.inl ⟨by rw [N1.out]; exact HZ.out, by rw [N1.out]⟩⟩
end Go.Proofs.YtoafdacgekmomabGreatDoor
