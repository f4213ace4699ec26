/-
  What is proved here: the walk of chimelaw4.RulePlain: it returns true for every three numbers, and turns nothing that was there; the tables, words and errors.errorType are asked as premises.
-/
import Derived.Test.YtdiijpjfkgnjkacDoorRlPrint
import Derived.Test.YtdiijpjfkgnjkacDoorTold
import Derived.Test.YtdiijpjfkgnjkacDoorRefDg
namespace Go.Proofs.YtdiijpjfkgnjkacDoor
open Go.RowKit Cal Txt

/-- A plain rule. -/
def pl (f e c : Int) : Rl := { freq := f, every := e, count := c, till := 0, months := [], days := [], weeks := [], pick := [] }
def okP (f e c : Int) : Prop := 1 ≤ f ∧ f ≤ 4 ∧ 1 ≤ e ∧ e ≤ 50 ∧ 0 ≤ c ∧ c ≤ 200
theorem pl_bad {f e c : Int} (h : ¬ okP f e c) : rf (pl f e c) = 1 := rf_1 (decide_eq_false (by unfold okP at h; unfold pl; dsimp only; omega))
theorem pl_good {f e c : Int} (h : okP f e c) : rf (pl f e c) = 0 := by
  obtain ⟨a, b, d, e1, f1, g⟩ := h
  exact rf_0 (decide_eq_true (by unfold pl; dsimp only; omega)) (fun k => k.2 rfl) rfl rfl rfl (by simp [pl, oddB, anyN])
theorem pl_in (w : World) (f e c : Int) : RuleIn w (.agg #[.int .i64 f, .int .i64 e, .int .i64 c, .int .i64 0, .slice none 0 0, .slice none 0 0, .slice none 0 0, .slice none 0 0]) (pl f e c) :=
  ⟨_, _, _, _, rfl, ⟨none, 0, rfl, Or.inl rfl⟩, ⟨none, 0, rfl, Or.inl rfl⟩, ⟨none, 0, rfl, Or.inl rfl⟩, ⟨none, 0, rfl, Or.inl rfl⟩⟩
/-- A plain rule's text. -/
theorem pl_rt (f e c : Int) : rt (pl f e c) = fq f ++ (if e = 1 then [] else 32 :: kw 0 ++ 32 :: nt e) ++ (if c = 0 then [] else 32 :: kw 1 ++ 32 :: nt c) := by
  rw [← tk_rt (pl f e c) rfl]
  have h2 : pt (pl f e c) 2 = [] := rfl
  have h3 : pt (pl f e c) 3 = [] := rfl
  have h4 : pt (pl f e c) 4 = [] := rfl
  have h5 : pt (pl f e c) 5 = [] := rfl
  have h6 : pt (pl f e c) 6 = [] := rfl
  rw [tk_same h6, tk_same h5, tk_same h4, tk_same h3, tk_same h2]
  show (fq f ++ (if unt e 1 = [] then [] else 32 :: kw 0 ++ 32 :: unt e 1)) ++ (if unt c 0 = [] then [] else 32 :: kw 1 ++ 32 :: unt c 0) = _
  unfold unt
  by_cases h : e = 1 <;> by_cases g : c = 0 <;> simp [h, g, nt_ne]
/-- The words of the law. -/
theorem words_at {w W : World} {f : Int} (h1 : 1 ≤ f) (h4 : f ≤ 4) (hb : Below (w.alloc (.cells #[.string ⟨#[]⟩, .string ⟨#[100, 97, 105, 108, 121]⟩, .string ⟨#[119, 101, 101, 107, 108, 121]⟩, .string ⟨#[109, 111, 110, 116, 104, 108, 121]⟩, .string ⟨#[121, 101, 97, 114, 108, 121]⟩] 9)).heap.size (w.alloc (.cells #[.string ⟨#[]⟩, .string ⟨#[100, 97, 105, 108, 121]⟩, .string ⟨#[119, 101, 101, 107, 108, 121]⟩, .string ⟨#[109, 111, 110, 116, 104, 108, 121]⟩, .string ⟨#[121, 101, 97, 114, 108, 121]⟩] 9)) W) : W.cell? ⟨w.heap.size, f.toNat, none⟩ = some (.string (tb (fq f))) := by
  rw [hb.cell (p := ⟨w.heap.size, f.toNat, none⟩) (by simp)]
  rcases (by omega : f = 1 ∨ f = 2 ∨ f = 3 ∨ f = 4) with rfl | rfl | rfl | rfl <;> simp <;> rfl
theorem word_every : (⟨#[32, 101, 118, 101, 114, 121, 32]⟩ : ByteArray) = tb (32 :: kw 0 ++ [32]) := rfl
theorem word_count : (⟨#[32, 99, 111, 117, 110, 116, 32]⟩ : ByteArray) = tb (32 :: kw 1 ++ [32]) := rfl
theorem refDigits_tb (n : Int) (w : World) (h0 : -999999999 ≤ n) (h1 : n ≤ 999999999) : Calls Tryd.prog 9 #[.int .i64 n] w fun e w' => e = .returned (.string (tb (nt n))) ∧ w' = w := refDigits_nt n w h0 h1
set_option maxRecDepth 100000 in
set_option maxHeartbeats 4000000 in
theorem rplain (f e c : Int) (w : World) (hT : Tab w) (hP : Pow w) (hF : FrW w) (hA : PaW w) (hW : WdW w) (hE : ErrTy w) :
    Calls Tryd.prog 3 #[.int .i64 f, .int .i64 e, .int .i64 c] w fun e w' => e = .returned (.bool true) ∧ Below w.heap.size w w' := by
  have B0 : Below w.heap.size w (w.alloc (.cells #[.string ⟨#[]⟩, .string ⟨#[100, 97, 105, 108, 121]⟩, .string ⟨#[119, 101, 101, 107, 108, 121]⟩, .string ⟨#[109, 111, 110, 116, 104, 108, 121]⟩, .string ⟨#[121, 101, 97, 114, 108, 121]⟩] 9)) := (Below.refl _ _).alloc (Nat.le_refl _) _
  have HB := Lib.hid B0
  have HE := Lib.hid (hE.below B0)
  have KP := Lib.hid (rprint_any (pl f e c) _ (w.alloc (.cells #[.string ⟨#[]⟩, .string ⟨#[100, 97, 105, 108, 121]⟩, .string ⟨#[119, 101, 101, 107, 108, 121]⟩, .string ⟨#[109, 111, 110, 116, 104, 108, 121]⟩, .string ⟨#[121, 101, 97, 114, 108, 121]⟩] 9)) (pl_in _ f e c) (hT.below B0) (hP.below B0) (hF.below B0) (hA.below B0) (hW.below B0))
  clear B0 hT hP hF hA hW hE
  by_cases h : okP f e c
  case neg =>
    have E1 := Lib.hid (pl_bad h)
    rw [E1.out, if_neg (by decide), fault_some (by decide)] at KP
    have hc : f < 1 ∨ (1 ≤ f ∧ 4 < f) ∨ (1 ≤ f ∧ f ≤ 4 ∧ e < 1) ∨ (1 ≤ f ∧ f ≤ 4 ∧ 1 ≤ e ∧ 50 < e) ∨ (1 ≤ f ∧ f ≤ 4 ∧ 1 ≤ e ∧ e ≤ 50 ∧ c < 0) ∨ (1 ≤ f ∧ f ≤ 4 ∧ 1 ≤ e ∧ e ≤ 50 ∧ 0 ≤ c ∧ 200 < c) := by unfold okP at h; omega
    clear h E1
    rcases hc with a | ⟨a, b⟩ | ⟨a, b, d⟩ | ⟨a, b, d, g⟩ | ⟨a, b, d, g, i⟩ | ⟨a, b, d, g, i, j⟩
    all_goals
      go_enter Tryd.func3, Tryd.ntmps3
      go_wp2_with fail
      refine KP.out.mono ?_
      rintro e' w1 ⟨rfl, hx⟩
      have HB1 := Lib.hid (HB.out.trans (hx.mono HB.out.size))
      have HE1 := Lib.hid (HE.out.below hx)
      clear hx HB HE KP
      go_wp2_with fail
      refine (error_errno 1 1 _ HE1.out).mono ?_
      rintro e' w2 ⟨rfl, hx⟩
      have HB2 := HB1.out.trans (hx.mono HB1.out.size)
      clear hx
      go_wp2
      go_ret
      exact ⟨rfl, HB2⟩
  have E1 := Lib.hid (pl_good h)
  rw [E1.out, if_pos rfl, fault_zero rfl] at KP
  obtain ⟨a, b, d, g, i, j⟩ := h
  clear E1
  have RT := Lib.hid (pl_rt f e c)
  have L1 : (tb (fq f)).size ≤ 7 := by rw [tb_size]; exact fq_len f
  have L2 : (nt e).length ≤ 10 := nt_len e (by omega) (by omega)
  have L3 : (nt c).length ≤ 10 := nt_len c (by omega) (by omega)
  go_enter Tryd.func3, Tryd.ntmps3
  go_wp2_with fail
  refine KP.out.mono ?_
  rintro e' w1 ⟨rfl, hx⟩
  have HB1 := Lib.hid (HB.out.trans (hx.mono HB.out.size))
  have fc := words_at a b hx
  clear hx HB HE KP
  rcases (by omega : (e = 1 ∧ c = 0) ∨ (e = 1 ∧ 0 < c) ∨ (1 < e ∧ c = 0) ∨ (1 < e ∧ 0 < c)) with ⟨he, hc⟩ | ⟨he, hc⟩ | ⟨he, hc⟩ | ⟨he, hc⟩
  · have N1 : Hid (tb (rt (pl f e c)) = tb (fq f)) := Lib.hid (by rw [RT.out, if_pos he, if_pos hc]; simp)
    subst he hc
    go_wp2
    go_ret
    exact ⟨ret_bool (by rw [N1.out]; simp), HB1.out⟩
  · have N1 : Hid (tb (rt (pl f e c)) = tb (fq f) ++ ⟨#[32, 99, 111, 117, 110, 116, 32]⟩ ++ tb (nt c)) := Lib.hid (by rw [RT.out, if_pos he, if_neg (by omega), word_count, ← tb_app, ← tb_app]; simp)
    subst he
    go_wp2_with fail
    refine (refDigits_tb c _ (by omega) (by omega)).mono ?_
    rintro e' w2 ⟨rfl, hw⟩
    subst hw
    have f1 : ¬ 9223372036854775807 < (tb (fq f)).size + 7 := by omega
    have f2 : ¬ 9223372036854775807 < (tb (fq f)).size + 7 + (tb (nt c)).size := by rw [tb_size (nt c)]; omega
    go_wp2
    go_ret
    exact ⟨ret_bool (by rw [N1.out]; simp), HB1.out⟩
  · have N1 : Hid (tb (rt (pl f e c)) = tb (fq f) ++ ⟨#[32, 101, 118, 101, 114, 121, 32]⟩ ++ tb (nt e)) := Lib.hid (by rw [RT.out, if_neg (by omega), if_pos hc, word_every, ← tb_app, ← tb_app]; simp)
    subst hc
    go_wp2_with fail
    refine (refDigits_tb e _ (by omega) (by omega)).mono ?_
    rintro e' w2 ⟨rfl, hw⟩
    subst hw
    have f1 : ¬ 9223372036854775807 < (tb (fq f)).size + 7 := by omega
    have f2 : ¬ 9223372036854775807 < (tb (fq f)).size + 7 + (tb (nt e)).size := by rw [tb_size (nt e)]; omega
    go_wp2
    go_ret
    exact ⟨ret_bool (by rw [N1.out]; simp), HB1.out⟩
  · have N1 : Hid (tb (rt (pl f e c)) = tb (fq f) ++ ⟨#[32, 101, 118, 101, 114, 121, 32]⟩ ++ tb (nt e) ++ ⟨#[32, 99, 111, 117, 110, 116, 32]⟩ ++ tb (nt c)) := Lib.hid (by rw [RT.out, if_neg (by omega), if_neg (by omega), word_every, word_count, ← tb_app, ← tb_app, ← tb_app, ← tb_app]; simp)
    go_wp2_with fail
    refine (refDigits_tb e _ (by omega) (by omega)).mono ?_
    rintro e' w2 ⟨rfl, hw⟩
    subst hw
    have f1 : ¬ 9223372036854775807 < (tb (fq f)).size + 7 := by omega
    have f2 : ¬ 9223372036854775807 < (tb (fq f)).size + 7 + (tb (nt e)).size := by rw [tb_size (nt e)]; omega
    go_wp2_with fail
    refine (refDigits_tb c _ (by omega) (by omega)).mono ?_
    rintro e' w3 ⟨rfl, hw⟩
    subst hw
    have f3 : ¬ 9223372036854775807 < (tb (fq f)).size + 7 + (tb (nt e)).size + 7 := by rw [tb_size (nt e)]; omega
    have f4 : ¬ 9223372036854775807 < (tb (fq f)).size + 7 + (tb (nt e)).size + 7 + (tb (nt c)).size := by rw [tb_size (nt e), tb_size (nt c)]; omega
    go_wp2
    go_ret
    exact ⟨ret_bool (by rw [N1.out]; simp), HB1.out⟩
end Go.Proofs.YtdiijpjfkgnjkacDoor
