/-
  What is proved here: what slices.Delete answers at a row of rings that a call owns, at one place (a contract over the translation).
-/
import Derived.Test.YtpnbnnndpbjgmaaDoorQuRow
namespace Go.Proofs.YtpnbnnndpbjgmaaDoor.Qu
open Go.RowKit

set_option maxHeartbeats 4000000 in
set_option maxRecDepth 1000000 in
theorem delete_any (M : List Rq) (p n0 : Nat) (v : Value) (w : World) (ho : Ow w n0 v M) (hp : p < M.length) :
    Calls Tryd.prog 24 #[v, .int .i64 p, .int .i64 (p + 1 : Nat)] w fun e w' => ∃ v', e = .returned v' ∧ Ow w' n0 v' (del M p) ∧ v'.ownBlock = v.ownBlock ∧ w.grownBy w' v.ownBlock := by
  rcases ho.open with ⟨_, h0⟩ | ⟨g, cap, L, rfl, hb, hL, hnc, hm, hl, ht⟩
  · rw [h0] at hp; simp at hp
  obtain ⟨n, hn⟩ : ∃ n, n = M.length := ⟨_, rfl⟩
  rw [← hn] at hnc ht hp ⊢
  -- what is moved
  obtain ⟨news, hnews⟩ : ∃ news, news = (M.drop (p + 1)).flatMap encQ := ⟨_, rfl⟩
  have hlen : news.length = (n - (p + 1)) * 5 := by rw [hnews, flatQ_len, List.length_drop, hn]
  have hone : ∀ u ∈ news, u.oneCell' = true := by rw [hnews]; exact flatQ_one _
  have hget : ∀ t u, news[t]? = some u → L[(p + 1) * 5 + t]? = some u := fun t u hu => by
    have ht' : t < news.length := (List.getElem?_eq_some_iff.1 hu).1
    have e : L[(p + 1) * 5 + t]? = (L.take (n * 5))[(p + 1) * 5 + t]? := by
      rw [List.getElem?_take, if_pos (by omega)]
    rw [e, ht, ← List.getElem?_drop, flatQ_drop, ← hnews]
    exact hu
  obtain ⟨A, hA, hsrc⟩ : ∃ A : Addr, (if cap = p + 1 then some (⟨g, 0, none⟩ : Addr) else some ⟨g, (p + 1) * 5, none⟩) = some A ∧ Hid (∀ W, Lies W g L → ∀ t u, news[t]? = some u → W.cell? (A.add t) = some u) := by
    by_cases h : cap = p + 1
    · refine ⟨⟨g, 0, none⟩, by simp [h], fun W _ t u hu => ?_⟩
      have h0 : news.length = 0 := by rw [hlen]; omega
      rw [List.length_eq_zero_iff.1 h0] at hu
      simp at hu
    · refine ⟨⟨g, (p + 1) * 5, none⟩, by simp [h], fun W hW t u hu => ?_⟩
      rw [Addr.add_mid]
      exact hW.cell (hget t u hu)
  obtain ⟨L1, hL1⟩ : ∃ L1, L1 = spl L (p * 5) news := ⟨_, rfl⟩
  have l1 : L1.length = cap * 5 := by rw [hL1, spl_len (by omega)]; exact hl
  have AR : Hid (∀ W ty, Lies W g L → (Builtin.append_ #[23, 23] ty #[.slice (some ⟨g, 0, none⟩) p cap, .slice (some A) (n - (p + 1)) (cap - (p + 1))]).run Tryd.prog W = .ok (.slice (some ⟨g, 0, none⟩) (p + (n - (p + 1))) cap) (W.setRow g L1.toArray)) :=
    Lib.hid (fun W ty hW => by rw [hL1]; exact app_run hW ty p cap A (n - (p + 1)) (cap - (p + 1)) news hlen (hsrc.out W hW) hone (by omega) (by omega))
  obtain ⟨k, hk⟩ : ∃ k, n = k + 1 := ⟨n - 1, by omega⟩
  have e1 : p + (n - (p + 1)) = k := by omega
  obtain ⟨L2, hL2⟩ : ∃ L2, L2 = spl L1 (k * 5) (zrs 1) := ⟨_, rfl⟩
  have CR : Hid (∀ W ty c, Lies W g L1 → (Builtin.clear_ #[23] ty #[.slice (some ⟨g, k * 5, none⟩) 1 c]).run Tryd.prog W = .ok (.tuple #[]) (W.setRow g L2.toArray)) :=
    Lib.hid (fun W ty c hW => by rw [hL2]; exact clear_run hW ty (k * 5) 1 c (by omega) (by omega))
  obtain ⟨W1, hW1⟩ : ∃ W1, W1 = w.drew.setRow g L1.toArray := ⟨_, rfl⟩
  have AW : Hid (∀ ty, (Builtin.append_ #[23, 23] ty #[.slice (some ⟨g, 0, none⟩) p cap, .slice (some A) (n - (p + 1)) (cap - (p + 1))]).run Tryd.prog w.drew = .ok (.slice (some ⟨g, 0, none⟩) k cap) W1) :=
    Lib.hid (fun ty => by rw [hW1, ← e1]; exact AR.out w.drew ty hL)
  have hW1L : Lies W1 g L1 := by rw [hW1]; exact Lies.set (w := w.drew) hL L1
  have hcl : ∀ ty c, (Builtin.clear_ #[23] ty #[.slice (some ⟨g, k * 5, none⟩) 1 c]).run Tryd.prog W1 = .ok (.tuple #[]) (W1.setRow g L2.toArray) := fun ty c => CR.out W1 ty c hW1L
  have FIN : Hid (Ow (W1.setRow g L2.toArray) n0 (.slice (some ⟨g, 0, none⟩) k cap) (del M p) ∧ w.grownBy (W1.setRow g L2.toArray) (some g)) := Lib.hid (by
    have dl : (del M p).length = k := by rw [del_len (by omega)]; omega
    refine ⟨?_, grown_tr (grown_of_drew (by rw [hW1]; exact grown_setRow _ _ _)) (grown_setRow _ _ _)⟩
    have q := Ow.make (M := del M p) (cap := cap) hb (hW1L.set L2) (by omega) hm (by rw [hL2, spl_len (by rw [l1, zrs_len]; omega)]; exact l1) (by
      rw [dl, hL2, spl_low (Nat.le_refl _) (by omega), hL1]
      have e2 : k * 5 = p * 5 + news.length := by rw [hlen]; omega
      rw [e2, spl_take (by omega)]
      have e3 : L.take (p * 5) = (M.take p).flatMap encQ := by
        rw [← flatQ_take, ← ht, List.take_take, Nat.min_eq_left (by omega)]
      rw [e3, hnews, ← List.flatMap_append]
      rfl)
    rw [dl] at q
    exact q)
  have hpc : p ≤ cap := by omega
  have hpc1 : p + 1 ≤ cap := by omega
  have q1 : (0 : Int) ≤ (p : Int) + 1 := by omega
  have q2 : (p : Int) + 1 ≤ (n : Int) := by omega
  have q3 : ¬ cap = k := by omega
  have q4 : k ≤ n := by omega
  have q5 : n - k = 1 := by omega
  clear hL ht hn hnews hL1 hL2 hget hsrc hone hlen ho l1 hl AR CR e1 hW1 hW1L hk
  go_enter Tryd.func24, Tryd.ntmps24
  go_wp2_with fail
  go_region_law (refine step_app2 rfl (.tmp 22) (.tmp 25) 23 23 rfl _ _ (by simp [Act.eval, Act.put]) (by simp [Act.eval, Act.put]) (AW.out _) ?_)
  go_wp2
  go_ret
  exact ⟨_, rfl, FIN.out.1, rfl, FIN.out.2⟩
end Go.Proofs.YtpnbnnndpbjgmaaDoor.Qu
