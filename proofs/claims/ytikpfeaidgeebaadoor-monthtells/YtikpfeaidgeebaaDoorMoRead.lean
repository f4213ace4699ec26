/-
  What is proved here: what package month's read answers of three bytes (a contract over the translation), and plain words on that.
-/
import Derived.Test.YtikpfeaidgeebaaDoorMoNum
import Derived.BigQuiet
import Derived.Lib.QuietBelow
namespace Go.Proofs.YtikpfeaidgeebaaDoor.Mo
open Go.RowKit Cal Txt

/-- Which number from 1 to 31 is written so (0: none). -/
def nv (l : List UInt8) : Nat := ((List.range 32).find? fun n => decide (1 ≤ n) && decide (nu n = l)).getD 0
theorem nu_val (n : Nat) : val ((nu n).dropWhile (· == 32)) = n := by
  unfold nu
  have hh : ∀ c, c ∈ (Lib.decDigits n).head? → ¬ c = 32 := by
    intro c hc e
    have hm : c ∈ Lib.decDigits n := List.mem_of_mem_head? hc
    have := isDg_iff.1 (dec_is n c hm)
    rw [e] at this
    revert this; decide
  have hd : (Lib.decDigits n).dropWhile (· == 32) = Lib.decDigits n := by
    rcases hl : Lib.decDigits n with _ | ⟨c, r⟩
    · rfl
    · have := hh c (by rw [hl]; rfl)
      rw [List.dropWhile_cons, if_neg (by simpa using this)]
  split
  · rw [List.dropWhile_cons, if_pos (by decide), hd, dec_val]
  · rw [hd, dec_val]
theorem nu_inj {m n : Nat} (e : nu m = nu n) : m = n := by
  rw [← nu_val m, ← nu_val n, e]
theorem nv_hit {l : List UInt8} {n : Nat} (h1 : 1 ≤ n) (h2 : n ≤ 31) (h : nu n = l) : nv l = n := by
  unfold nv
  rcases hf : (List.range 32).find? fun n => decide (1 ≤ n) && decide (nu n = l) with _ | k
  · have := List.find?_eq_none.1 hf n (List.mem_range.2 (by omega))
    simp [h1, h] at this
  · have hk := List.find?_some hf
    have hm := List.mem_range.1 (List.mem_of_find?_eq_some hf)
    simp at hk
    show k = n
    exact nu_inj (hk.2.trans h.symm)
theorem nv_none {l : List UInt8} (h : ∀ k, 1 ≤ k → k ≤ 31 → ¬ nu k = l) : nv l = 0 := by
  unfold nv
  rcases hf : (List.range 32).find? fun n => decide (1 ≤ n) && decide (nu n = l) with _ | k
  · rfl
  · have hk := List.find?_some hf
    have hm := List.mem_range.1 (List.mem_of_find?_eq_some hf)
    simp at hk
    exact absurd hk.2 (h k hk.1 (by omega))
/-- What is read at a place, and its fault. -/
def rdL (l : List UInt8) : Int × Int :=
  if l = [32, 32, 32] then (0, 5) else if ¬ (l.take 1 = [32] ∨ l.take 1 = [42]) then (0, 2) else if nv (l.drop 1) = 0 then (0, 2) else ((nv (l.drop 1) : Nat), 0)
theorem rd_none {l : List UInt8} (h : l = [32, 32, 32]) : rdL l = (0, 5) := if_pos h
theorem rd_sign {l : List UInt8} (h : ¬ l = [32, 32, 32]) (h1 : ¬ l.take 1 = [32]) (h2 : ¬ l.take 1 = [42]) : rdL l = (0, 2) := by
  unfold rdL; rw [if_neg h, if_pos (by rintro (a | a); exact h1 a; exact h2 a)]
theorem rd_bad {l : List UInt8} (h : ¬ l = [32, 32, 32]) (h0 : nv (l.drop 1) = 0) : rdL l = (0, 2) := by
  unfold rdL
  rw [if_neg h]
  by_cases q : ¬ (l.take 1 = [32] ∨ l.take 1 = [42])
  · rw [if_pos q]
  · rw [if_neg q, if_pos h0]
theorem rd_num {l : List UInt8} {n : Nat} (h : ¬ l = [32, 32, 32]) (h1 : l.take 1 = [32] ∨ l.take 1 = [42]) (h0 : nv (l.drop 1) = n) (hn : 1 ≤ n) : rdL l = ((n : Int), 0) := by
  unfold rdL; rw [if_neg h, if_neg (fun q => q h1), if_neg (by omega), h0]
theorem eq_yes {s : ByteArray} {l : List UInt8} (h : s.data.toList = l) : (s.toList == l) = true := by rw [ByteArray.toList_eq]; simpa using h
theorem eq_no {s : ByteArray} {l : List UInt8} (h : ¬ s.data.toList = l) : (s.toList == l) = false := by rw [ByteArray.toList_eq]; simpa using h
theorem ex_one {s : ByteArray} : (s.extract 0 1).data.toList = s.data.toList.take 1 := by simp [ByteArray.data_extract]
theorem ex_two {s : ByteArray} (hs : s.size = 3) : (s.extract 1 3).data.toList = s.data.toList.drop 1 := by
  rw [ByteArray.data_extract]
  simp
  rw [List.take_of_length_le]
  have : s.data.toList.length = 3 := by rw [← hs]; rfl
  simp at this
  simp [this]
set_option maxRecDepth 100000 in
set_option maxHeartbeats 1000000 in
theorem read_any (s : ByteArray) (w : World) (hs : s.size = 3) :
    Calls Tryd.prog 35 #[.string s] w fun e w' => e = .returned (.tuple #[.int .i64 (rdL s.data.toList).1, fault (rdL s.data.toList).2]) ∧ Below w.heap.size w w' := by
  by_cases h0 : s.data.toList = [32, 32, 32]
  · have N := Lib.hid (rd_none h0)
    have t0 := eq_yes h0
    generalize rdL s.data.toList = R at N ⊢
    clear h0
    go_enter Tryd.func35, Tryd.ntmps35
    go_wp2
    go_ret2
    exact ⟨by rw [N.out]; rfl, Below.refl _ _⟩
  have t0 := eq_no h0
  have e1 := ex_one (s := s)
  have e2 := ex_two hs
  obtain ⟨P, hP⟩ : ∃ P, P = s.extract 0 1 := ⟨_, rfl⟩
  obtain ⟨Q, hQ⟩ : ∃ Q, Q = s.extract 1 3 := ⟨_, rfl⟩
  rw [← hP] at e1
  rw [← hQ] at e2
  have HP := Lib.hid hP
  have HQ := Lib.hid hQ
  by_cases g : P.data.toList = [32] ∨ P.data.toList = [42]
  · have J := Lib.hid g
    have HN : Hid (∀ k, 1 ≤ k → k ≤ 31 → nu k = Q.data.toList → rdL s.data.toList = ((k : Int), 0)) := Lib.hid (fun k k1 k2 hk => rd_num h0 (by rw [← e1]; exact g) (by rw [← e2]; exact nv_hit k1 k2 hk) k1)
    have HZ : Hid ((∀ k, 1 ≤ k → k ≤ 31 → ¬ nu k = Q.data.toList) → rdL s.data.toList = (0, 2)) := Lib.hid (fun hk => rd_bad h0 (by rw [← e2]; exact nv_none hk))
    generalize rdL s.data.toList = R at HN HZ ⊢
    have u12 : ((s.extract 0 1).toList == [32]) = true ∨ (((s.extract 0 1).toList == [32]) = false ∧ ((s.extract 0 1).toList == [42]) = true) := by
      rw [← hP]
      rcases g with g | g
      · exact Or.inl (eq_yes g)
      · exact Or.inr ⟨eq_no (by rw [g]; decide), eq_yes g⟩
    clear h0 g e1 e2 hP hQ HP J
    rcases u12 with u1 | ⟨u1, u2⟩
    all_goals
      go_enter Tryd.func35, Tryd.ntmps35
      go_wp2_with fail
      go_quiet (fail)
      go_wp2
      go_loopw [6] (fun nv wr => ∃ k : Nat, 1 ≤ k ∧ k ≤ 32 ∧ nv = .int .i64 k ∧ Hid (∀ j, 1 ≤ j → j < k → ¬ nu j = Q.data.toList) ∧ Below w.heap.size w wr) (fun nv _ => 32 - (intOf nv).toNat)
      case atStart => exact ⟨1, by omega, by omega, rfl, Lib.hid (fun j a b => by omega), below_drewN (Below.refl _ _) _⟩
      case round =>
        obtain ⟨k, k1, k2, rfl, HF, hB⟩ := hrel
        have HB := Lib.hid hB
        clear hB
        by_cases hlt : k ≤ 31
        · by_cases hk : nu k = Q.data.toList
          · have N := Lib.hid (HN.out k k1 hlt hk)
            have t1 : ((s.extract 1 3).toList == (tb (nu k)).toList) = true := by
              rw [← HQ.out]; exact eq_yes (by rw [ByteArray.toList_eq, tb_data]; exact hk.symm)
            have y1 : (tb (nu k)).size = 2 := by rw [tb_size, nu_len (by omega)]
            clear hk
            go_wp2_with (go_at_call 40; refine (number_nat k _ (by omega)).mono ?_; rintro e w' ⟨rfl, rfl⟩)
            go_ret2
            exact ⟨by rw [N.out]; rfl, HB.out⟩
          · have HF2 : Hid (∀ j, 1 ≤ j → j < k + 1 → ¬ nu j = Q.data.toList) := Lib.hid (fun j a b => by
              rcases Nat.lt_or_ge j k with c | c
              · exact HF.out j a c
              · obtain rfl : j = k := by omega
                exact hk)
            have t1 : ((s.extract 1 3).toList == (tb (nu k)).toList) = false := by
              rw [← HQ.out]; exact eq_no (by rw [ByteArray.toList_eq, tb_data]; exact fun q => hk q.symm)
            clear hk
            go_wp2_with (go_at_call 40; refine (number_nat k _ (by omega)).mono ?_; rintro e w' ⟨rfl, rfl⟩)
            go_roundw
            case rel => exact ⟨k + 1, by omega, by omega, by go_num, HF2, HB.out⟩
            case measure => simp [intOf]; omega
        · have N := Lib.hid (HZ.out (fun j a b => HF.out j a (by omega)))
          go_wp2
          go_ret2
          exact ⟨by rw [N.out]; rfl, HB.out⟩
  · have h1 : ¬ P.data.toList = [32] := fun q => g (Or.inl q)
    have h2 : ¬ P.data.toList = [42] := fun q => g (Or.inr q)
    have N := Lib.hid (rd_sign h0 (by rw [← e1]; exact h1) (by rw [← e1]; exact h2))
    have u1 := eq_no h1
    have u2 := eq_no h2
    rw [hP] at u1 u2
    generalize rdL s.data.toList = R at N ⊢
    clear h0 g h1 h2 e1 e2 hP hQ HP HQ
    go_enter Tryd.func35, Tryd.ntmps35
    go_wp2_with fail
    go_quiet (fail)
    go_wp2
    go_ret2
    exact ⟨by rw [N.out]; rfl, below_drewN (Below.refl _ _) _⟩
end Go.Proofs.YtikpfeaidgeebaaDoor.Mo
