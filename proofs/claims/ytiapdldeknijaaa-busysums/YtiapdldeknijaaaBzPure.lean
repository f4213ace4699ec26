/-
  What is proved here: plain facts on stretches of minutes: which minutes a list of them holds, in as few as may be, what is left of a stretch, how many minutes there are.
-/
import Derived.Test.YtiapdldeknijaaaCal
namespace Go.Proofs.Ytiapdldeknijaaa.Bz

/-- From one minute to below another one. -/
abbrev Bz := Int × Int
/-- A minute is in one of them. -/
def cov (l : List Bz) (t : Int) : Prop := ∃ x ∈ l, x.1 ≤ t ∧ t < x.2
/-- Rising, none of no minute, none that touches the next. -/
def Cn (m : List Bz) : Prop := m.Pairwise (fun x y => x.2 < y.1) ∧ ∀ x ∈ m, x.1 < x.2
theorem cn_nil : Cn [] := ⟨List.Pairwise.nil, fun x h => by simp at h⟩
theorem cn_cons {a : Bz} {r : List Bz} : Cn (a :: r) ↔ a.1 < a.2 ∧ (∀ y ∈ r, a.2 < y.1) ∧ Cn r := by
  unfold Cn
  rw [List.pairwise_cons]
  constructor
  · rintro ⟨⟨h1, h2⟩, h3⟩
    exact ⟨h3 a (by simp), h1, h2, fun x hx => h3 x (by simp [hx])⟩
  · rintro ⟨h1, h2, h3, h4⟩
    refine ⟨⟨h2, h3⟩, fun x hx => ?_⟩
    rcases List.mem_cons.1 hx with rfl | hx
    · exact h1
    · exact h4 x hx
theorem cov_nil (t : Int) : ¬ cov [] t := fun ⟨x, h, _⟩ => by simp at h
theorem cov_cons {a : Bz} {r : List Bz} {t : Int} : cov (a :: r) t ↔ (a.1 ≤ t ∧ t < a.2) ∨ cov r t := by
  unfold cov
  constructor
  · rintro ⟨x, hx, h⟩
    rcases List.mem_cons.1 hx with rfl | hx
    · exact Or.inl h
    · exact Or.inr ⟨x, hx, h⟩
  · rintro (h | ⟨x, hx, h⟩)
    · exact ⟨a, by simp, h⟩
    · exact ⟨x, by simp [hx], h⟩
theorem cov_app {a b : List Bz} {t : Int} : cov (a ++ b) t ↔ cov a t ∨ cov b t := by
  induction a with
  | nil => simp [cov_nil]
  | cons x r ih => rw [List.cons_append, cov_cons, cov_cons, ih, or_assoc]
theorem cov_one {a : Bz} {t : Int} : cov [a] t ↔ a.1 ≤ t ∧ t < a.2 := by
  rw [cov_cons]
  simp [cov_nil]
theorem Cn.first {m : List Bz} (h : Cn m) {x : Bz} (hx : x ∈ m) : cov m x.1 := ⟨x, hx, Int.le_refl _, h.2 x hx⟩
theorem Cn.last {m : List Bz} (h : Cn m) {x : Bz} (hx : x ∈ m) : cov m (x.2 - 1) := ⟨x, hx, by have := h.2 x hx; omega, by omega⟩
/-- What holds the same minutes is the same. -/
theorem cn_ext : ∀ {m n : List Bz}, Cn m → Cn n → (∀ t, cov m t ↔ cov n t) → m = n
  | [], [], _, _, _ => rfl
  | [], b :: s, _, hn, h => absurd ((h b.1).2 (hn.first (by simp))) (cov_nil _)
  | a :: r, [], hm, _, h => absurd ((h a.1).1 (hm.first (by simp))) (cov_nil _)
  | a :: r, b :: s, hm, hn, h => by
    obtain ⟨a1, a2, a3⟩ := cn_cons.1 hm
    obtain ⟨b1, b2, b3⟩ := cn_cons.1 hn
    have ra : ∀ t, cov r t → a.2 < t := fun t ⟨x, hx, k⟩ => by have := a2 x hx; omega
    have sb : ∀ t, cov s t → b.2 < t := fun t ⟨x, hx, k⟩ => by have := b2 x hx; omega
    have e1 : a.1 = b.1 := by
      have p := cov_cons.1 ((h a.1).1 (hm.first (by simp)))
      have q := cov_cons.1 ((h b.1).2 (hn.first (by simp)))
      rcases p with p | p
      · rcases q with q | q
        · omega
        · have := ra _ q
          omega
      · have := sb _ p
        rcases q with q | q
        · omega
        · have := ra _ q
          omega
    have e2 : a.2 = b.2 := by
      rcases Int.lt_trichotomy a.2 b.2 with k | k | k
      · rcases cov_cons.1 ((h a.2).2 (cov_cons.2 (Or.inl ⟨by omega, k⟩))) with p | p
        · omega
        · have := ra _ p
          omega
      · exact k
      · rcases cov_cons.1 ((h b.2).1 (cov_cons.2 (Or.inl ⟨by omega, k⟩))) with p | p
        · omega
        · have := sb _ p
          omega
    have e3 : r = s := cn_ext a3 b3 (fun t => by
      constructor
      · intro k
        have := ra _ k
        rcases cov_cons.1 ((h t).1 (cov_cons.2 (Or.inr k))) with p | p
        · omega
        · exact p
      · intro k
        have := sb _ k
        rcases cov_cons.1 ((h t).2 (cov_cons.2 (Or.inr k))) with p | p
        · omega
        · exact p)
    rw [e3, Prod.ext e1 e2]
/-- Is a minute in one of them? -/
def wi (l : List Bz) (t : Int) : Bool := l.any fun x => decide (x.1 ≤ t ∧ t < x.2)
theorem wi_iff {l : List Bz} {t : Int} : wi l t = true ↔ cov l t := by
  unfold wi cov
  simp
theorem wi_cons (a : Bz) (r : List Bz) (t : Int) : wi (a :: r) t = (decide (a.1 ≤ t ∧ t < a.2) || wi r t) := rfl
/-- One more is put in. -/
def pt1 (b : Bz) : List Bz → List Bz
  | [] => [b]
  | o :: r => if o.2 < b.1 then o :: pt1 b r else if b.2 < o.1 then b :: o :: r else pt1 (min o.1 b.1, max o.2 b.2) r
theorem pt1_cn : ∀ (out : List Bz) (b : Bz), Cn out → b.1 < b.2 → Cn (pt1 b out) ∧ ∀ t, cov (pt1 b out) t ↔ (b.1 ≤ t ∧ t < b.2) ∨ cov out t
  | [], b, _, hb => ⟨cn_cons.2 ⟨hb, fun y h => by simp at h, cn_nil⟩, fun t => cov_cons⟩
  | o :: r, b, hm, hb => by
    obtain ⟨o1, o2, o3⟩ := cn_cons.1 hm
    unfold pt1
    by_cases c1 : o.2 < b.1
    · rw [if_pos c1]
      obtain ⟨i1, i2⟩ := pt1_cn r b o3 hb
      refine ⟨cn_cons.2 ⟨o1, fun y hy => ?_, i1⟩, fun t => ?_⟩
      · rcases (i2 y.1).1 (i1.first hy) with k | ⟨z, hz, k⟩
        · omega
        · have := o2 z hz
          omega
      · rw [cov_cons, i2, cov_cons]
        constructor
        · rintro (k | k | k)
          · exact Or.inr (Or.inl k)
          · exact Or.inl k
          · exact Or.inr (Or.inr k)
        · rintro (k | k | k)
          · exact Or.inr (Or.inl k)
          · exact Or.inl k
          · exact Or.inr (Or.inr k)
    · rw [if_neg c1]
      by_cases c2 : b.2 < o.1
      · rw [if_pos c2]
        refine ⟨cn_cons.2 ⟨hb, fun y hy => ?_, hm⟩, fun t => cov_cons⟩
        rcases List.mem_cons.1 hy with rfl | hy
        · exact c2
        · have := o2 y hy
          omega
      · rw [if_neg c2]
        obtain ⟨i1, i2⟩ := pt1_cn r (min o.1 b.1, max o.2 b.2) o3 (by show min o.1 b.1 < max o.2 b.2; omega)
        refine ⟨i1, fun t => ?_⟩
        rw [i2, cov_cons]
        show (min o.1 b.1 ≤ t ∧ t < max o.2 b.2) ∨ cov r t ↔ _
        constructor
        · rintro (k | k)
          · by_cases q : b.1 ≤ t ∧ t < b.2
            · exact Or.inl q
            · exact Or.inr (Or.inl (by omega))
          · exact Or.inr (Or.inr k)
        · rintro (k | k | k)
          · exact Or.inl (by omega)
          · exact Or.inl (by omega)
          · exact Or.inr k
theorem pt1_len : ∀ (out : List Bz) (b : Bz), (pt1 b out).length ≤ out.length + 1
  | [], b => Nat.le_refl _
  | o :: r, b => by
    unfold pt1
    split
    · have := pt1_len r b
      simp only [List.length_cons]
      omega
    · split
      · simp
      · have := pt1_len r (min o.1 b.1, max o.2 b.2)
        simp only [List.length_cons]
        omega
/-- What is taken, in as few as may be: out of what was, one by one. -/
def nrF (out : List Bz) (b : Bz) : List Bz := if b.1 = b.2 then out else pt1 b out
def nrm (l : List Bz) : List Bz := l.foldl nrF []
/-- None ends ahead of its begin. -/
def Rt (l : List Bz) : Prop := ∀ x ∈ l, x.1 ≤ x.2
theorem nrF_all : ∀ (l out : List Bz), Cn out → Rt l → Cn (l.foldl nrF out) ∧ (∀ t, cov (l.foldl nrF out) t ↔ cov out t ∨ cov l t) ∧ (l.foldl nrF out).length ≤ out.length + l.length
  | [], out, h, _ => ⟨h, fun t => by simp [cov_nil], Nat.le_refl _⟩
  | b :: r, out, h, hr => by
    have hb := hr b (by simp)
    have hr' : Rt r := fun x hx => hr x (by simp [hx])
    rw [List.foldl_cons]
    have key : Cn (nrF out b) ∧ (∀ t, cov (nrF out b) t ↔ cov out t ∨ (b.1 ≤ t ∧ t < b.2)) ∧ (nrF out b).length ≤ out.length + 1 := by
      unfold nrF
      by_cases c : b.1 = b.2
      · rw [if_pos c]
        refine ⟨h, fun t => ⟨Or.inl, ?_⟩, by omega⟩
        rintro (k | k)
        · exact k
        · omega
      · rw [if_neg c]
        obtain ⟨i1, i2⟩ := pt1_cn out b h (by omega)
        exact ⟨i1, fun t => by rw [i2, or_comm], pt1_len out b⟩
    obtain ⟨k1, k2, k3⟩ := key
    obtain ⟨j1, j2, j3⟩ := nrF_all r (nrF out b) k1 hr'
    refine ⟨j1, fun t => by rw [j2, k2, cov_cons, or_assoc], ?_⟩
    rw [List.length_cons]
    omega
theorem nrm_cn {l : List Bz} (h : Rt l) : Cn (nrm l) := (nrF_all l [] cn_nil h).1
theorem nrm_cov {l : List Bz} (h : Rt l) (t : Int) : cov (nrm l) t ↔ cov l t := by
  rw [show cov (nrm l) t ↔ _ from (nrF_all l [] cn_nil h).2.1 t]
  simp [cov_nil]
theorem nrm_len {l : List Bz} (h : Rt l) : (nrm l).length ≤ l.length := by
  have := (nrF_all l [] cn_nil h).2.2
  simpa [nrm] using this
theorem nrm_is {l m : List Bz} (h : Rt l) (hm : Cn m) (hc : ∀ t, cov m t ↔ cov l t) : m = nrm l := cn_ext hm (nrm_cn h) (fun t => by rw [hc, nrm_cov h])
theorem nrm_self {m : List Bz} (h : Cn m) : nrm m = m := (nrm_is (fun x hx => by have := h.2 x hx; omega) h (fun _ => Iff.rfl)).symm
/-- All from lo to hi. -/
def Wt (lo hi : Int) (l : List Bz) : Prop := ∀ x ∈ l, lo ≤ x.1 ∧ x.2 ≤ hi
theorem nrm_in {l : List Bz} {lo hi : Int} (h : Rt l) (hw : Wt lo hi l) : Wt lo hi (nrm l) := fun x hx => by
  obtain ⟨y, hy, k⟩ := (nrm_cov h x.1).1 ((nrm_cn h).first hx)
  obtain ⟨z, hz, q⟩ := (nrm_cov h (x.2 - 1)).1 ((nrm_cn h).last hx)
  have := hw y hy
  have := hw z hz
  omega
/-! What is joined one behind the other, in order. -/
def stp (out : List Bz) (b : Bz) : List Bz :=
  if out = [] then [b] else if (out.getD (out.length - 1) (0, 0)).2 < b.1 then out ++ [b] else out.set (out.length - 1) ((out.getD (out.length - 1) (0, 0)).1, max (out.getD (out.length - 1) (0, 0)).2 b.2)
theorem stp_last (i : List Bz) (z b : Bz) : stp (i ++ [z]) b = if z.2 < b.1 then i ++ [z] ++ [b] else i ++ [(z.1, max z.2 b.2)] := by
  have e : (i ++ [z]).getD ((i ++ [z]).length - 1) (0, 0) = z := by simp
  unfold stp
  rw [if_neg (by simp), e]
  split
  · rfl
  · simp
/-- How far the joining has come. -/
def MgI (d out : List Bz) : Prop := Cn out ∧ (∀ t, cov out t ↔ cov d t) ∧ out.length ≤ d.length
theorem cn_snoc {i : List Bz} {z : Bz} : Cn (i ++ [z]) ↔ Cn i ∧ z.1 < z.2 ∧ ∀ x ∈ i, x.2 < z.1 := by
  unfold Cn
  rw [List.pairwise_append]
  constructor
  · rintro ⟨⟨h1, _, h3⟩, h4⟩
    exact ⟨⟨h1, fun x hx => h4 x (by simp [hx])⟩, h4 z (by simp), fun x hx => h3 x hx z (by simp)⟩
  · rintro ⟨⟨h1, h2⟩, h3, h4⟩
    refine ⟨⟨h1, by simp, fun x hx y hy => by simp at hy; subst hy; exact h4 x hx⟩, fun x hx => ?_⟩
    rcases List.mem_append.1 hx with k | k
    · exact h2 x k
    · simp at k
      subst k
      exact h3
theorem MgI.step {d out : List Bz} {b : Bz} (h : MgI d out) (hb : b.1 < b.2) (ho : ∀ y ∈ d, y.1 ≤ b.1) : MgI (d ++ [b]) (stp out b) := by
  obtain ⟨h1, h2, h3⟩ := h
  rcases List.eq_nil_or_concat out with rfl | ⟨i, z, rfl⟩
  · refine ⟨?_, fun t => ?_, by simp [stp]⟩
    · simp only [stp]
      exact cn_cons.2 ⟨hb, fun y h => by simp at h, cn_nil⟩
    · simp only [stp]
      rw [cov_app, ← h2]
      simp [cov_nil]
  · rw [List.concat_eq_append] at h1 h2 h3 ⊢
    obtain ⟨c1, c2, c3⟩ := cn_snoc.1 h1
    have zb : z.1 ≤ b.1 := by
      obtain ⟨y, hy, k⟩ := (h2 z.1).1 (h1.first (by simp))
      obtain ⟨y2, hy2, k2⟩ := (h2 z.1).1 (h1.first (by simp))
      have := ho y hy
      rcases Int.lt_or_le y.1 z.1 with q | q
      · obtain ⟨u, hu, k3⟩ := (h2 y.1).2 ⟨y, hy, Int.le_refl _, by omega⟩
        rcases List.mem_append.1 hu with g | g
        · obtain ⟨u4, hu4, k4⟩ := (h2 (z.1 - 1)).2 ⟨y, hy, by omega, by omega⟩
          rcases List.mem_append.1 hu4 with g4 | g4
          · have := c3 u4 g4
            omega
          · simp at g4
            subst g4
            omega
        · simp at g
          subst g
          omega
      · omega
    rw [stp_last]
    by_cases c : z.2 < b.1
    · rw [if_pos c]
      refine ⟨cn_snoc.2 ⟨h1, hb, fun x hx => ?_⟩, fun t => by rw [cov_app (a := i ++ [z]), cov_app (a := d), h2], by simp at h3 ⊢; omega⟩
      rcases List.mem_append.1 hx with g | g
      · have := c3 x g
        omega
      · simp at g
        subst g
        exact c
    · rw [if_neg c]
      refine ⟨cn_snoc.2 ⟨c1, by show z.1 < max z.2 b.2; omega, c3⟩, fun t => ?_, by simp at h3 ⊢; omega⟩
      rw [cov_app, cov_app, ← h2, cov_app, cov_one, cov_one, cov_one]
      show cov i t ∨ (z.1 ≤ t ∧ t < max z.2 b.2) ↔ _
      constructor
      · rintro (k | k)
        · exact Or.inl (Or.inl k)
        · by_cases q : z.1 ≤ t ∧ t < z.2
          · exact Or.inl (Or.inr q)
          · exact Or.inr (by omega)
      · rintro ((k | k) | k)
        · exact Or.inl k
        · exact Or.inr (by omega)
        · exact Or.inr (by omega)
/-- What is sorted and joined is what is taken. -/
theorem mgI_done {l B out : List Bz} (hr : Rt l) (hp : (l.filter (fun x => !decide (x.2 - x.1 = 0))).Perm B) (h : MgI B out) : out = nrm l := by
  refine nrm_is hr h.1 (fun t => ?_)
  rw [h.2.1]
  unfold cov
  constructor
  · rintro ⟨x, hx, k⟩
    exact ⟨x, (List.mem_filter.1 (hp.mem_iff.2 hx)).1, k⟩
  · rintro ⟨x, hx, k⟩
    exact ⟨x, hp.mem_iff.1 (List.mem_filter.2 ⟨hx, by simp; omega⟩), k⟩
/-! What of a stretch is not taken. -/
def fre (e : Int) : Int → List Bz → List Bz
  | a, [] => if a < e then [(a, e)] else []
  | a, b :: r => (if a < min b.1 e then [(a, min b.1 e)] else []) ++ fre e (max a b.2) r
theorem fre_cn (e : Int) : ∀ (m : List Bz) (a : Int), Cn m → Cn (fre e a m) ∧ ∀ t, cov (fre e a m) t ↔ (a ≤ t ∧ t < e) ∧ ¬ cov m t
  | [], a, _ => by
    unfold fre
    by_cases c : a < e
    · rw [if_pos c]
      exact ⟨cn_cons.2 ⟨c, fun y h => by simp at h, cn_nil⟩, fun t => by rw [cov_one]; simp [cov_nil]⟩
    · rw [if_neg c]
      refine ⟨cn_nil, fun t => ⟨fun h => absurd h (cov_nil _), fun h => ?_⟩⟩
      omega
  | b :: r, a, h => by
    obtain ⟨b1, b2, b3⟩ := cn_cons.1 h
    obtain ⟨i1, i2⟩ := fre_cn e r (max a b.2) b3
    have rb : ∀ t, cov r t → b.2 < t := fun t ⟨x, hx, k⟩ => by have := b2 x hx; omega
    unfold fre
    have hc : ∀ t, (a ≤ t ∧ t < min b.1 e) ∨ cov (fre e (max a b.2) r) t ↔ (a ≤ t ∧ t < e) ∧ ¬ cov (b :: r) t := fun t => by
      rw [i2, cov_cons]
      constructor
      · rintro (k | ⟨k, k2⟩)
        · refine ⟨by omega, ?_⟩
          rintro (q | q)
          · omega
          · have := rb t q
            omega
        · refine ⟨by omega, ?_⟩
          rintro (q | q)
          · omega
          · exact k2 q
      · rintro ⟨k, k2⟩
        by_cases q : t < b.1
        · exact Or.inl (by omega)
        · have q2 : ¬ (b.1 ≤ t ∧ t < b.2) := fun g => k2 (Or.inl g)
          exact Or.inr ⟨by omega, fun g => k2 (Or.inr g)⟩
    by_cases c : a < min b.1 e
    · rw [if_pos c]
      refine ⟨cn_cons.2 ⟨c, fun y hy => ?_, i1⟩, fun t => by rw [List.singleton_append, cov_cons]; exact hc t⟩
      have := ((i2 y.1).1 (i1.first hy)).1
      show min b.1 e < y.1
      omega
    · rw [if_neg c]
      refine ⟨i1, fun t => ?_⟩
      rw [List.nil_append, ← hc t]
      constructor
      · exact Or.inr
      · rintro (k | k)
        · omega
        · exact k
theorem fre_len (e : Int) : ∀ (m : List Bz) (a : Int), (fre e a m).length ≤ m.length + 1
  | [], a => by unfold fre; split <;> simp
  | b :: r, a => by
    have := fre_len e r (max a b.2)
    unfold fre
    rw [List.length_append, List.length_cons]
    split <;> simp <;> omega
/-! How many minutes there are. -/
def tot : List Bz → Int
  | [] => 0
  | x :: r => x.2 - x.1 + tot r
def cnt (p : Int → Bool) (lo : Int) : Nat → Int
  | 0 => 0
  | n + 1 => cnt p lo n + (if p (lo + n) = true then 1 else 0)
theorem cnt_le {p q : Int → Bool} (lo : Int) (h : ∀ t, p t = true → q t = true) : ∀ n, cnt p lo n ≤ cnt q lo n
  | 0 => Int.le_refl _
  | n + 1 => by
    have := cnt_le lo h n
    unfold cnt
    by_cases c : p (lo + n) = true
    · rw [if_pos c, if_pos (h _ c)]
      omega
    · rw [if_neg c]
      split <;> omega
theorem cnt_or {p q r : Int → Bool} (lo : Int) (h : ∀ t, r t = true ↔ p t = true ∨ q t = true) (hd : ∀ t, p t = true → q t = true → False) : ∀ n, cnt r lo n = cnt p lo n + cnt q lo n
  | 0 => rfl
  | n + 1 => by
    have := cnt_or lo h hd n
    unfold cnt
    by_cases c : p (lo + n) = true
    · have c2 : ¬ q (lo + n) = true := fun k => hd _ c k
      rw [if_pos ((h _).2 (Or.inl c)), if_pos c, if_neg c2]
      omega
    · by_cases c2 : q (lo + n) = true
      · rw [if_pos ((h _).2 (Or.inr c2)), if_neg c, if_pos c2]
        omega
      · rw [if_neg (fun k => ((h _).1 k).elim c c2), if_neg c, if_neg c2]
        omega
theorem cnt_of (lo a b : Int) (h : lo ≤ a) : ∀ n : Nat, cnt (fun t => decide (a ≤ t ∧ t < b)) lo n = max 0 (min b (lo + n) - a)
  | 0 => by unfold cnt; omega
  | n + 1 => by
    have := cnt_of lo a b h n
    unfold cnt
    by_cases c : a ≤ lo + n ∧ lo + n < b
    · rw [if_pos (decide_eq_true c)]
      omega
    · rw [if_neg (by simpa using c)]
      omega
theorem cnt_tot (lo : Int) (n : Nat) : ∀ m : List Bz, Cn m → Wt lo (lo + n) m → cnt (wi m) lo n = tot m
  | [], _, _ => by
    have h : ∀ k, cnt (wi []) lo k = 0 := fun k => by
      induction k with
      | zero => rfl
      | succ k ih => unfold cnt; rw [ih]; simp [wi]
    exact h n
  | x :: r, h, hw => by
    obtain ⟨x1, x2, x3⟩ := cn_cons.1 h
    have hx := hw x (by simp)
    have ih := cnt_tot lo n r x3 (fun y hy => hw y (by simp [hy]))
    rw [cnt_or (p := fun t => decide (x.1 ≤ t ∧ t < x.2)) (q := wi r) lo (fun t => by rw [wi_cons, Bool.or_eq_true]) (fun t a b => by
      obtain ⟨y, hy, k⟩ := wi_iff.1 b
      have := of_decide_eq_true a
      have := x2 y hy
      omega) n, ih, cnt_of lo x.1 x.2 hx.1]
    show _ = x.2 - x.1 + tot r
    omega
/-- What holds more has more. -/
theorem tot_le {m n : List Bz} {lo : Int} {k : Nat} (hm : Cn m) (hn : Cn n) (wm : Wt lo (lo + k) m) (wn : Wt lo (lo + k) n) (h : ∀ t, cov n t → cov m t) : tot n ≤ tot m := by
  rw [← cnt_tot lo k m hm wm, ← cnt_tot lo k n hn wn]
  exact cnt_le lo (fun t q => wi_iff.2 (h t (wi_iff.1 q))) k
/-- Two that are a stretch, each minute once. -/
theorem tot_two {m n : List Bz} {a e : Int} (hae : a ≤ e) (hm : Cn m) (hn : Cn n) (wm : Wt a e m) (wn : Wt a e n) (h : ∀ t, cov m t ∨ cov n t ↔ a ≤ t ∧ t < e) (hd : ∀ t, cov m t → cov n t → False) : tot m + tot n = e - a := by
  obtain ⟨k, rfl⟩ : ∃ k : Nat, e = a + k := ⟨(e - a).toNat, by omega⟩
  rw [← cnt_tot a k m hm wm, ← cnt_tot a k n hn wn, ← cnt_or (r := fun t => decide (a ≤ t ∧ t < a + k)) a (fun t => by rw [wi_iff, wi_iff, h]; simp) (fun t p q => hd t (wi_iff.1 p) (wi_iff.1 q)) k, cnt_of a a (a + k) (Int.le_refl _)]
  omega
theorem tot_cap {m : List Bz} {lo hi : Int} (h : Cn m) (hw : Wt lo hi m) (hl : lo ≤ hi) : 0 ≤ tot m ∧ tot m ≤ hi - lo := by
  obtain ⟨k, rfl⟩ : ∃ k : Nat, hi = lo + k := ⟨(hi - lo).toNat, by omega⟩
  rw [← cnt_tot lo k m h hw]
  have a := cnt_le (p := wi m) (q := fun t => decide (lo ≤ t ∧ t < lo + k) || wi m t) lo (fun t q => by rw [q]; simp) k
  refine ⟨?_, ?_⟩
  · have : ∀ j, 0 ≤ cnt (wi m) lo j := fun j => by
      induction j with
      | zero => exact Int.le_refl _
      | succ j ih => unfold cnt; split <;> omega
    exact this k
  · have : ∀ j : Nat, cnt (wi m) lo j ≤ j := fun j => by
      induction j with
      | zero => exact Int.le_refl _
      | succ j ih => unfold cnt; split <;> omega
    have := this k
    omega
end Go.Proofs.Ytiapdldeknijaaa.Bz
