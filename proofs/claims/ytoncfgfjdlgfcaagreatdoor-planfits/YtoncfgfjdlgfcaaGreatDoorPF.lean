/-
  What is proved here: plain facts on what Meet tells, as chimelaw2.PlanFits asks them: where all have time none is there.
  What is proved here: what plan.Busy answers of any list of events, and plan.Meet of a few of them (contracts over the translation).
  What is proved here: what Meet tells of the one event that chimelaw2.PlanFits asks first (plain facts).
-/
import Derived.Test.YtoncfgfjdlgfcaaGreatDoorPB
import Derived.Test.YtoncfgfjdlgfcaaGreatDoorPQ
namespace Go.Proofs.YtoncfgfjdlgfcaaGreatDoor.Pp
open Go.RowKit Bz Cal Txt

theorem slI_mem {n : Int} : ∀ {m : List Bz}, m.any (loB n) = true → ∃ x ∈ m, loB n x = true ∧ slI n m = x.1
  | [], h => by simp at h
  | x :: r, h => by
    by_cases q : loB n x = true
    · exact ⟨x, by simp, q, by unfold slI; rw [if_pos q]⟩
    · have h2 : r.any (loB n) = true := by simpa [q] using h
      obtain ⟨y, hy, q1, q2⟩ := slI_mem h2
      exact ⟨y, by simp [hy], q1, by unfold slI; rw [if_neg q, q2]⟩
/-- Inside one stretch of a list each minute is covered. -/
theorem cov_mem {m : List Bz} {x : Bz} (hx : x ∈ m) {t : Int} (h1 : x.1 ≤ t) (h2 : t < x.2) : cov m t := ⟨x, hx, h1, h2⟩
/-- A slot is free from end to end, and within the stretch. -/
theorem sa_free {C : List Bz} {fr t n : Int} (h : saF C fr t n = 0) : (1 ≤ n ∧ n ≤ 1000000) ∧ (fr ≤ saT C fr t n ∧ saT C fr t n + n ≤ t) ∧ (∀ m, saT C fr t n ≤ m → m < saT C fr t n + n → ¬ cov C m) ∧ 1 ≤ fr ∧ t ≤ 157785119 := by
  unfold saF at h
  unfold saT
  split at h
  · rename_i hf
    rw [if_pos hf]
    unfold slE at h
    split at h
    · exact absurd h (by decide)
    · rename_i hn
      split at h
      · rename_i ha
        obtain ⟨x, hx, q1, q2⟩ := slI_mem ha
        have e1 : slT n (faL C fr t) = x.1 := by unfold slT; rw [if_neg hn, q2]
        rw [e1]
        have q3 : n ≤ x.2 - x.1 := by unfold loB at q1; simpa using q1
        have hf2 := hf
        unfold faF at hf
        split at hf
        · rename_i hz
          have gd := onF_zero.1 hf
          have d : 1 ≤ fr ∧ fr ≤ t ∧ t ≤ 157785119 := gd
          have RT := gd_rt (reF_zero.1 hz)
          have eL : faL C fr t = fre t fr (nrm C) := by unfold faL; rw [if_pos hf2]
          rw [eL] at hx
          obtain ⟨i1, i2⟩ := fre_cn t (nrm C) fr (nrm_cn RT)
          have a := ((i2 x.1).1 (i1.first hx)).1
          have b := ((i2 (x.2 - 1)).1 (i1.last hx)).1
          refine ⟨by omega, by omega, fun m h1 h2 => ?_, by omega, by omega⟩
          have := ((i2 m).1 (cov_mem hx h1 (by omega))).2
          rwa [nrm_cov RT] at this
        · rename_i q
          exact absurd hf q
      · exact absurd h (by decide)
  · rename_i hf
    exact absurd h hf
theorem meG_zero {BF : Nat → Int} : ∀ {m k : Nat}, meG BF k m = 0 → ∀ i, k ≤ i → i < k + m → BF i = 0
  | 0, k, _, i, h1, h2 => by omega
  | m + 1, k, h, i, h1, h2 => by
    unfold meG at h
    split at h
    · rename_i q
      by_cases e : i = k
      · rw [e]; exact q
      · exact meG_zero h i (by omega) (by omega)
    · rename_i q
      exact absurd h q
theorem meC_cov {BL : Nat → List Bz} {m : Int} : ∀ {k : Nat}, ¬ cov (meC BL k) m → ∀ i, i < k → ¬ cov (BL i) m
  | 0, _, i, h => by omega
  | k + 1, hc, i, h => by
    have hc2 : ¬ cov (meC BL k ++ BL k) m := hc
    rw [cov_app] at hc2
    by_cases e : i = k
    · rw [e]; exact fun q => hc2 (Or.inr q)
    · exact meC_cov (fun q => hc2 (Or.inl q)) i (by omega)
/-- What is known where Meet tells no fault. -/
theorem me_free {BL : Nat → List Bz} {BF : Nat → Int} {n : Nat} {fr t len : Int} (h : meF BL BF n fr t len = 0) : (1 ≤ len ∧ len ≤ 1000000) ∧ (fr ≤ meT BL BF n fr t len ∧ meT BL BF n fr t len + len ≤ t) ∧ (1 ≤ fr ∧ t ≤ 157785119) ∧ ∀ i, i < n → BF i = 0 ∧ ∀ m, meT BL BF n fr t len ≤ m → m < meT BL BF n fr t len + len → ¬ cov (BL i) m := by
  unfold meF at h
  unfold meT
  split at h
  · rename_i hg
    rw [if_pos hg]
    obtain ⟨q1, q2, q3, q4⟩ := sa_free h
    exact ⟨q1, q2, q4, fun i hi => ⟨meG_zero hg i (Nat.zero_le _) (by omega), fun m h1 h2 => meC_cov (q3 m h1 h2) i hi⟩⟩
  · rename_i hg
    exact absurd h hg
/-- What is known of a list of events where Busy tells no fault. -/
theorem pb_free {g : Evt → Int} {tm : Evt → List Tm} {L : List (Evt × Evs)} {m : Int} (h : pbF (teF g tm L) (teL g tm L) = 0) (hc : ¬ cov (pbL (teF g tm L) (teL g tm L)) m) : ∀ x ∈ L, g x.1 = 0 ∧ ∀ y ∈ tm x.1, ¬ (y.2.1 ≤ m ∧ m < y.2.2) := by
  unfold pbF at h
  unfold pbL at hc
  split at h
  · rename_i hf
    rw [if_pos hf, nmL_yes h] at hc
    have RT := gd_rt (bzF_zero.1 h).2
    rw [nrm_cov RT] at hc
    have eL : teL g tm L = teM tm L := by unfold teL; rw [if_pos hf]
    rw [eL] at hc
    have hg : teG g L = 0 := by
      unfold teF at hf
      split at hf
      · exact absurd hf (by decide)
      · split at hf
        · rename_i q; exact absurd hf q
        · rename_i q; exact Decidable.byContradiction q
    have all : ∀ M : List (Evt × Evs), teG g M = 0 → ∀ x ∈ M, g x.1 = 0 := fun M => by
      induction M with
      | nil => intro _ x hx; simp at hx
      | cons a r ih =>
        intro q x hx
        have q2 : (if g a.1 = 0 then teG g r else g a.1) = 0 := q
        split at q2
        · rename_i q3
          rcases List.mem_cons.1 hx with rfl | hx
          · exact q3
          · exact ih q2 x hx
        · rename_i q3; exact absurd q2 q3
    intro x hx
    refine ⟨all L hg x hx, fun y hy hm => hc ⟨(y.2.1, y.2.2), ?_, hm⟩⟩
    rw [List.mem_flatten]
    exact ⟨tkb (tm x.1), List.mem_map.2 ⟨x, hx, rfl⟩, List.mem_map.2 ⟨y, hy, rfl⟩⟩
  · rename_i hf
    exact absurd h hf
end Go.Proofs.YtoncfgfjdlgfcaaGreatDoor.Pp
namespace Go.Proofs.YtoncfgfjdlgfcaaGreatDoor.Pp
open Go.RowKit Bz Cal Txt

theorem teM_flat (tm : Evt → List Tm) : ∀ L : List (Evt × Evs), (teM tm L).flatten.length = teN tm L
  | [] => rfl
  | x :: r => by
    have ih := teM_flat tm r
    show (tkb (tm x.1) ++ (teM tm r).flatten).length = (tm x.1).length + teN tm r
    rw [List.length_append, ih, tkb_len]
theorem teL_flat (g : Evt → Int) (tm : Evt → List Tm) (L : List (Evt × Evs)) : (teL g tm L).flatten.length ≤ 200 := by
  unfold teL
  split
  · rename_i q
    rw [teM_flat]
    unfold teF at q
    split at q
    · exact absurd q (by decide)
    · split at q
      · rename_i q2; exact absurd q q2
      · split at q
        · exact absurd q (by decide)
        · omega
  · simp
/-- The fault and the list that Busy tells. -/
def bsF (a : Int) (l : List (Int × Int)) (fr t : Int) (L : List (Evt × Evs)) : Int := pbF (teF (fun e => tbF a l e fr t) (fun e => tbL a l e fr t) L) (teL (fun e => tbF a l e fr t) (fun e => tbL a l e fr t) L)
def bsL (a : Int) (l : List (Int × Int)) (fr t : Int) (L : List (Evt × Evs)) : List Bz := pbL (teF (fun e => tbF a l e fr t) (fun e => tbL a l e fr t) L) (teL (fun e => tbF a l e fr t) (fun e => tbL a l e fr t) L)
theorem bsL_len (a : Int) (l : List (Int × Int)) (fr t : Int) (L : List (Evt × Evs)) : (bsL a l fr t L).length ≤ 200 := by
  unfold bsL pbL
  split
  · exact nmL_len _
  · simp
theorem bsy_any (hS : SrtH) (a : Int) (l : List (Int × Int)) (L : List (Evt × Evs)) (fr t : Int) (v vl : Value) (w : World) (hz : ZoneIn w v a l) (hL : Evl w vl L) (hl : L.length ≤ 9223372036854775807) (hT : Tab w) :
    Calls Tryz.prog 10 #[v, vl, .int .i64 fr, .int .i64 t] w (NmA w (bsL a l fr t L) (bsF a l fr t L)) := by
  obtain ⟨h1, _⟩ := teL_ok (fun e => tbF a l e fr t) (fun e => tbL a l e fr t) L (fun _ _ => tb_few2)
  have h2 := teL_flat (fun e => tbF a l e fr t) (fun e => tbL a l e fr t) L
  exact busy_of hS _ _ a l fr t v vl w hz (fun W q => each_of _ _ a l L fr t v vl W (hz.on q) (hL.on q) hl (fun _ _ _ => tb_few2) (fun x hx W' q' => tbetween_any a l v x.1 x.2 fr t W' ((hz.on q).on q') (((hL.on q).2 x hx).on q') ((hT.below q).below q'))) (by omega) (by omega)
/-- Meet of at most four lists. -/
theorem meet_any (hS : SrtH) (n : Nat) (hn : n ≤ 4) (za : Nat → Int) (zl : Nat → List (Int × Int)) (zs lv : Nat → Sv) (Ls : Nat → List (Evt × Evs)) (bz zo bl lo : Nat) (fr t len : Int) (w : World)
    (hzc : ∀ i, i < n → w.cell? ⟨bz, zo + i * 2, none⟩ = some (.int .i64 (za i)) ∧ w.cell? ⟨bz, zo + i * 2 + 1, none⟩ = some (svV (zs i))) (hlc : ∀ i, i < n → w.cell? ⟨bl, lo + i, none⟩ = some (svV (lv i)))
    (hz : ∀ i, i < n → ZoneIn w (.agg #[.int .i64 (za i), svV (zs i)]) (za i) (zl i)) (hL : ∀ i, i < n → Evl w (svV (lv i)) (Ls i)) (hl : ∀ i, i < n → (Ls i).length ≤ 9223372036854775807) (hT : Tab w) :
    Calls Tryz.prog 7 #[.slice (some ⟨bz, zo, none⟩) n n, .slice (some ⟨bl, lo, none⟩) n n, .int .i64 fr, .int .i64 t, .int .i64 len] w (TtA w (meT (fun i => bsL (za i) (zl i) fr t (Ls i)) (fun i => bsF (za i) (zl i) fr t (Ls i)) n fr t len) (meF (fun i => bsL (za i) (zl i) fr t (Ls i)) (fun i => bsF (za i) (zl i) fr t (Ls i)) n fr t len)) :=
  meet_of hS n hn za zs lv _ _ bz zo bl lo fr t len w hzc hlc (fun i hi W q => bsy_any hS (za i) (zl i) (Ls i) fr t _ _ W ((hz i hi).on q) ((hL i hi).on q) (hl i hi) (hT.below q)) (fun _ _ => bsL_len _ _ _ _ _)
end Go.Proofs.YtoncfgfjdlgfcaaGreatDoor.Pp
namespace Go.Proofs.YtoncfgfjdlgfcaaGreatDoor.Pp
open Go.RowKit Bz Cal Txt

/-- The event that is asked first. -/
abbrev evA : Evt := ⟨⟨#[97]⟩, ByteArray.empty, 100, 50, false, noRl, [], [], [], []⟩
theorem evA_fault : evF evA = 0 := by decide
theorem evA_list : tmL 0 [] evA 90 300 = [(100, 100, 150)] := by
  have o1 : okS 90 300 := by unfold okS; omega
  have hz : Zo.zf 0 [] = 0 := by decide
  have le : evA.len = 50 := rfl
  have re : rea evA 100 = some 100 := by decide
  have ie : ∀ x, isE evA x ↔ x = 100 := fun x => by
    unfold isE isS
    have r0 : evA.rep = false := rfl
    have m0 : evA.more = [] := rfl
    have n0 : evA.nots = [] := rfl
    have s0 : evA.start = 100 := rfl
    rw [r0, m0, n0, s0]
    simp
  refine tm_ext (tmL_rise evA_fault o1) (by simp) (fun y => ?_)
  rw [tmL_mem evA_fault hz o1]
  obtain ⟨y1, y2, y3⟩ := y
  unfold isTm
  simp only [ie]
  constructor
  · rintro ⟨rfl, ⟨r, hr, ht⟩, _, _⟩
    obtain ⟨_, _, q3⟩ := tim_nil.1 ht
    simp only [Prod.mk.injEq, true_and] at q3
    have hr' : (100 : Int) = r := by rw [re] at hr; simpa using hr
    simp
    omega
  · intro q
    simp at q
    obtain ⟨rfl, rfl, rfl⟩ := q
    exact ⟨rfl, ⟨100, re, tim_nil.2 ⟨by decide, by rw [le]; decide, by rw [le]; rfl⟩⟩, by omega, by omega⟩
theorem evA_told : tbF 0 [] evA 90 300 = 0 ∧ tbL 0 [] evA 90 300 = [(100, 100, 150)] := by
  have h0 : tbF 0 [] evA 90 300 = 0 := by
    unfold tbF
    rw [if_neg (fun q => q (by decide)), if_neg (by decide), evA_list]
    rfl
  refine ⟨h0, ?_⟩
  unfold tbL
  rw [if_pos h0, evA_list]
theorem evA_busy (s : Evs) : bsF 0 [] 90 300 [(evA, s)] = 0 ∧ bsL 0 [] 90 300 [(evA, s)] = [(100, 150)] := by
  obtain ⟨h1, h2⟩ := evA_told
  have f : teF (fun e => tbF 0 [] e 90 300) (fun e => tbL 0 [] e 90 300) [(evA, s)] = 0 := by
    rw [te_one tb_few2]
    exact h1
  have g : teL (fun e => tbF 0 [] e 90 300) (fun e => tbL 0 [] e 90 300) [(evA, s)] = [[(100, 150)]] := by
    unfold teL
    rw [if_pos f]
    show [tkb (tbL 0 [] evA 90 300)] = _
    rw [h2]
    rfl
  unfold bsF bsL
  rw [f, g]
  exact ⟨by decide, by decide⟩
/-- The first that is free is behind the event. -/
theorem evA_meet (s : Evs) : meF (fun _ => bsL 0 [] 90 300 [(evA, s)]) (fun _ => bsF 0 [] 90 300 [(evA, s)]) 1 90 300 30 = 0 ∧ meT (fun _ => bsL 0 [] 90 300 [(evA, s)]) (fun _ => bsF 0 [] 90 300 [(evA, s)]) 1 90 300 30 = 150 := by
  obtain ⟨h1, h2⟩ := evA_busy s
  rw [h1, h2]
  exact ⟨by decide, by decide⟩
theorem evA_nil (w : World) : EvB w evA nil8 := ⟨nil_int w, nil_int w, nil_nth w, nil_int w, nil_int w, nil_int w, nil_nth w, nil_alm w⟩
/-- What is known of each time of each event where Meet tells no fault. -/
theorem fit_one {za : Nat → Int} {zl : Nat → List (Int × Int)} {Ls : Nat → List (Evt × Evs)} {n : Nat} {fr t len : Int} (h : meF (fun i => bsL (za i) (zl i) fr t (Ls i)) (fun i => bsF (za i) (zl i) fr t (Ls i)) n fr t len = 0) (i : Nat) (hi : i < n) :
    ∀ x ∈ Ls i, tbF (za i) (zl i) x.1 fr t = 0 ∧ ∀ y ∈ tbL (za i) (zl i) x.1 fr t, ¬ (y.2.1 < meT (fun i => bsL (za i) (zl i) fr t (Ls i)) (fun i => bsF (za i) (zl i) fr t (Ls i)) n fr t len + len ∧ meT (fun i => bsL (za i) (zl i) fr t (Ls i)) (fun i => bsF (za i) (zl i) fr t (Ls i)) n fr t len < y.2.2 ∧ y.2.1 < y.2.2) := by
  obtain ⟨q1, _, _, q4⟩ := me_free h
  obtain ⟨f0, hc⟩ := q4 i hi
  intro x hx
  generalize meT (fun i => bsL (za i) (zl i) fr t (Ls i)) (fun i => bsF (za i) (zl i) fr t (Ls i)) n fr t len = T at hc ⊢
  have P := fun m h1 h2 => pb_free f0 (hc m h1 h2) x hx
  refine ⟨(P T (by omega) (by omega)).1, fun y hy hm => ?_⟩
  by_cases q : T ≤ y.2.1
  · exact (P y.2.1 q (by omega)).2 y hy ⟨by omega, by omega⟩
  · exact (P T (by omega) (by omega)).2 y hy ⟨by omega, by omega⟩
end Go.Proofs.YtoncfgfjdlgfcaaGreatDoor.Pp
