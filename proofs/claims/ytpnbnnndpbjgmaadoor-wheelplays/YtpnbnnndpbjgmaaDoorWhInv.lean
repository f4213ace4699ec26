/-
  What is proved here: plain facts on the rings of a wheel: each in its slot, once; what is added, dropped and gone over; no function of the program is walked.
-/
import Derived.Test.YtpnbnnndpbjgmaaDoorWhTake
namespace Go.Proofs.YtpnbnnndpbjgmaaDoor.Qu
open Go.RowKit

theorem nd_len : ∀ {P M : List Rq}, P.Nodup → (∀ z, z ∈ P → z ∈ M) → P.length ≤ M.length
  | [], _, _, _ => Nat.zero_le _
  | x :: P, M, hP, h => by
    have hc := List.nodup_cons.1 hP
    have hx : x ∈ M := h x List.mem_cons_self
    have e : (drp M x).length < M.length := List.length_filter_lt_length_iff_exists.2 ⟨x, hx, by simp [oc_self]⟩
    have := nd_len (P := P) (M := drp M x) hc.2 (fun z hz => drp_mem.2 ⟨h z (List.mem_cons_of_mem _ hz), fun q => hc.1 (by rw [← q]; exact hz)⟩)
    simp only [List.length_cons]
    omega
theorem rs_nd {M : List Rq} (h : Rs M) : M.Nodup := List.Pairwise.imp (fun {a c} q e => by rw [e, oc_self] at q; omega) h
/-- What there is on a wheel that is at a time. -/
structure Iv (now : Int) (R : Nat → List Rq) (M : List Rq) : Prop where
  n1 : 1 ≤ now
  n2 : now ≤ 157785119
  rs : Rs M
  len : M.length ≤ 400
  mem : ∀ z, z ∈ M ↔ ∃ k, k < 320 ∧ z ∈ R k
  at_ : ∀ k z, k < 320 → z ∈ R k → now < z.1 ∧ z.1 ≤ 157785119 ∧ ∃ l s, Sp now.toNat z.1.toNat l s ∧ k = l * 64 + s
  nd : ∀ k, k < 320 → (R k).Nodup
theorem Iv.new {now : Int} (h1 : 1 ≤ now) (h2 : now ≤ 157785119) : Iv now (fun _ => []) [] :=
  ⟨h1, h2, Rs.nil, by simp, fun z => ⟨fun h => (by cases h), fun ⟨_, _, h⟩ => (by cases h)⟩, fun k z _ h => (by cases h), fun k _ => List.nodup_nil⟩
/-- A ring is where its time says. -/
theorem Iv.spot {now : Int} {R : Nat → List Rq} {M : List Rq} (h : Iv now R M) {k l s : Nat} {z : Rq} (hk : k < 320) (hz : z ∈ R k) (hs : Sp now.toNat z.1.toNat l s) : k = l * 64 + s := by
  obtain ⟨_, _, l', s', h1, h2⟩ := h.at_ k z hk hz
  obtain ⟨rfl, rfl⟩ := hs.uniq h1
  exact h2
theorem Iv.slot {now : Int} {R : Nat → List Rq} {M : List Rq} (h : Iv now R M) {k : Nat} {z : Rq} (hk : k < 320) (hz : z ∈ R k) : Sp now.toNat z.1.toNat (k / 64) (k % 64) := by
  obtain ⟨a, b, l, s, h1, h2⟩ := h.at_ k z hk hz
  have := (h1.lt (by have := h.n2; omega) (by omega)).2
  rw [h2, show (l * 64 + s) / 64 = l by omega, show (l * 64 + s) % 64 = s by omega]
  exact h1
theorem Iv.one {now : Int} {R : Nat → List Rq} {M : List Rq} (h : Iv now R M) {k j : Nat} {z : Rq} (hk : k < 320) (hj : j < 320) (h1 : z ∈ R k) (h2 : z ∈ R j) : k = j := by
  have a := h.slot hk h1
  have b := h.slot hj h2
  have := a.uniq b
  omega
theorem Iv.in_ {now : Int} {R : Nat → List Rq} {M : List Rq} (h : Iv now R M) {z : Rq} (hz : z ∈ M) : now < z.1 ∧ z.1 ≤ 157785119 := by
  obtain ⟨k, hk, h2⟩ := (h.mem z).1 hz
  have := h.at_ k z hk h2
  exact ⟨this.1, this.2.1⟩
theorem Iv.row {now : Int} {R : Nat → List Rq} {M : List Rq} (h : Iv now R M) {k : Nat} (hk : k < 320) : (R k).length ≤ 1000000 := by
  have := nd_len (h.nd k hk) (fun z hz => (h.mem z).2 ⟨k, hk, hz⟩)
  have := h.len
  omega
theorem Iv.has {now : Int} {R : Nat → List Rq} {M : List Rq} (h : Iv now R M) {l s : Nat} {r : Rq} (hk : l * 64 + s < 320) (hs : Sp now.toNat r.1.toNat l s) : hasQ (R (l * 64 + s)) r = hasQ M r := by
  rw [Bool.eq_iff_iff, hasQ_iff, hasQ_iff, h.mem]
  constructor
  · intro q; exact ⟨_, hk, q⟩
  · rintro ⟨k, hk2, q⟩
    rw [h.spot hk2 q hs] at q
    exact q
theorem Iv.add {now : Int} {R : Nat → List Rq} {M : List Rq} (h : Iv now R M) {l s : Nat} {r : Rq} (hk : l * 64 + s < 320) (hs : Sp now.toNat r.1.toNat l s) (h1 : now < r.1) (h2 : r.1 ≤ 157785119) (hr : r ∉ M) (hl : M.length < 400) : Iv now (upd R (l * 64 + s) (R (l * 64 + s) ++ [r])) (put M r) := by
  refine ⟨h.n1, h.n2, put_rs h.rs, ?_, fun z => ?_, fun k z hk2 hz => ?_, fun k hk2 => ?_⟩
  · have := nd_len (P := put M r) (M := r :: M) (rs_nd (put_rs h.rs)) (fun z hz => by
      rcases (put_mem hr).1 hz with q | q
      · exact List.mem_cons_of_mem _ q
      · rw [q]; exact List.mem_cons_self)
    simp only [List.length_cons] at this
    omega
  · rw [put_mem hr, h.mem]
    constructor
    · rintro (⟨k, hk2, q⟩ | rfl)
      · refine ⟨k, hk2, ?_⟩
        by_cases e : k = l * 64 + s
        · subst e; rw [upd_at]; exact List.mem_append_left _ q
        · rw [upd_ne _ _ e]; exact q
      · exact ⟨_, hk, by rw [upd_at]; exact List.mem_append_right _ (List.mem_singleton.2 rfl)⟩
    · rintro ⟨k, hk2, q⟩
      by_cases e : k = l * 64 + s
      · subst e
        rw [upd_at] at q
        rcases List.mem_append.1 q with q | q
        · exact Or.inl ⟨_, hk2, q⟩
        · exact Or.inr (List.mem_singleton.1 q)
      · rw [upd_ne _ _ e] at q
        exact Or.inl ⟨k, hk2, q⟩
  · by_cases e : k = l * 64 + s
    · subst e
      rw [upd_at] at hz
      rcases List.mem_append.1 hz with q | q
      · exact h.at_ _ z hk q
      · rw [List.mem_singleton.1 q]; exact ⟨h1, h2, l, s, hs, rfl⟩
    · rw [upd_ne _ _ e] at hz
      exact h.at_ k z hk2 hz
  · by_cases e : k = l * 64 + s
    · subst e
      rw [upd_at, List.nodup_append]
      refine ⟨h.nd _ hk, by simp, fun a ha c hc q => hr ?_⟩
      rw [← List.mem_singleton.1 hc, ← q]
      exact (h.mem _).2 ⟨_, hk, ha⟩
    · rw [upd_ne _ _ e]
      exact h.nd k hk2
theorem nd_del {L : List Rq} {p : Nat} (h : L.Nodup) (hp : p < L.length) : (del L p).Nodup ∧ ∀ z, z ∈ del L p ↔ z ∈ L ∧ z ≠ L.getD p zq := by
  have e0 : L = L.take p ++ L.getD p zq :: L.drop (p + 1) := by
    rw [List.getD_eq_getElem?_getD, List.getElem?_eq_getElem hp]
    simp
  have h' := h
  rw [e0, List.nodup_append, List.nodup_cons] at h'
  obtain ⟨n1, ⟨n2, n3⟩, n4⟩ := h'
  unfold del
  refine ⟨List.nodup_append.2 ⟨n1, n3, fun a ha c hc => n4 a ha c (List.mem_cons_of_mem _ hc)⟩, fun z => ?_⟩
  have e1 : z ∈ L ↔ z ∈ L.take p ∨ z = L.getD p zq ∨ z ∈ L.drop (p + 1) := by
    conv => lhs; rw [e0]
    rw [List.mem_append, List.mem_cons]
  rw [e1, List.mem_append]
  constructor
  · rintro (q | q)
    · exact ⟨Or.inl q, fun e => n4 z q _ List.mem_cons_self e⟩
    · exact ⟨Or.inr (Or.inr q), fun e => n2 (by rw [← e]; exact q)⟩
  · rintro ⟨q | q | q, n⟩
    · exact Or.inl q
    · exact absurd q n
    · exact Or.inr q
theorem Iv.drop {now : Int} {R : Nat → List Rq} {M : List Rq} (h : Iv now R M) {k p : Nat} {r : Rq} (hk : k < 320) (hp : p < (R k).length) (he : (R k).getD p zq = r) : Iv now (upd R k (del (R k) p)) (drp M r) := by
  obtain ⟨d1, d2⟩ := nd_del (h.nd k hk) hp
  rw [he] at d2
  have hr : r ∈ R k := by rw [← he]; exact getD_mem hp
  refine ⟨h.n1, h.n2, drp_rs h.rs, ?_, fun z => ?_, fun j z hj hz => ?_, fun j hj => ?_⟩
  · have : (drp M r).length ≤ M.length := List.length_filter_le _ _
    have := h.len
    omega
  · rw [drp_mem, h.mem]
    constructor
    · rintro ⟨⟨j, hj, q⟩, n⟩
      refine ⟨j, hj, ?_⟩
      by_cases e : j = k
      · subst e; rw [upd_at, d2]; exact ⟨q, n⟩
      · rw [upd_ne _ _ e]; exact q
    · rintro ⟨j, hj, q⟩
      by_cases e : j = k
      · subst e
        rw [upd_at, d2] at q
        exact ⟨⟨j, hj, q.1⟩, q.2⟩
      · rw [upd_ne _ _ e] at q
        refine ⟨⟨j, hj, q⟩, fun n => e ?_⟩
        rw [n] at q
        exact h.one hj hk q hr
  · by_cases e : j = k
    · subst e
      rw [upd_at, d2] at hz
      exact h.at_ j z hj hz.1
    · rw [upd_ne _ _ e] at hz
      exact h.at_ j z hj hz
  · by_cases e : j = k
    · subst e; rw [upd_at]; exact d1
    · rw [upd_ne _ _ e]; exact h.nd j hj
theorem Iv.drop_len {now : Int} {R : Nat → List Rq} {M : List Rq} (h : Iv now R M) {r : Rq} (hr : r ∈ M) : (drp M r).length = M.length - 1 := by
  have h1 := nd_len (P := r :: drp M r) (M := M) (List.nodup_cons.2 ⟨fun q => (drp_mem.1 q).2 rfl, rs_nd (drp_rs h.rs)⟩) (fun z hz => by
    rcases List.mem_cons.1 hz with rfl | q
    · exact hr
    · exact (drp_mem.1 q).1)
  have h2 := nd_len (P := M) (M := r :: drp M r) (rs_nd h.rs) (fun z hz => by
    by_cases e : z = r
    · rw [e]; exact List.mem_cons_self
    · exact List.mem_cons_of_mem _ (drp_mem.2 ⟨hz, e⟩))
  simp only [List.length_cons] at h1 h2
  omega
/-- What is gone over. -/
theorem Iv.tk_nd {now : Int} {R : Nat → List Rq} {M : List Rq} (h : Iv now R M) : ∀ n, n ≤ 320 → (tkL R 0 n).Nodup
  | 0, _ => List.nodup_nil
  | n + 1, hn => by
    rw [tkL_succ, List.nodup_append, Nat.zero_add]
    refine ⟨Iv.tk_nd h n (by omega), h.nd n (by omega), fun a ha c hc e => ?_⟩
    obtain ⟨k, _, h2, h3⟩ := tkL_mem.1 ha
    rw [← e] at hc
    have := h.one (by omega) (by omega) h3 hc
    omega
theorem Iv.tk_len {now : Int} {R : Nat → List Rq} {M : List Rq} (h : Iv now R M) {n : Nat} (hn : n ≤ 320) : (tkL R 0 n).length ≤ M.length :=
  nd_len (h.tk_nd n hn) (fun z hz => by
    obtain ⟨k, _, h2, h3⟩ := tkL_mem.1 hz
    exact (h.mem z).2 ⟨k, by omega, h3⟩)
/-- What is due is gone over. -/
theorem Iv.due {now t : Int} {R : Nat → List Rq} {M : List Rq} (h : Iv now R M) {top last : Nat} (hs : Sp now.toNat t.toNat top last) (h2 : last < 64) (ht : 1 ≤ t) {z : Rq} (hz : z ∈ M) (hd : z.1 ≤ t) : z ∈ tkL R 0 (top * 64 + (last + 1)) := by
  obtain ⟨k, hk, hr⟩ := (h.mem z).1 hz
  obtain ⟨a, b, l, s, h1, e⟩ := h.at_ k z hk hr
  have n1 := h.n1
  have hs6 := (h1.lt (by have := h.n2; omega) (by omega)).2
  refine tkL_mem.2 ⟨k, Nat.zero_le _, ?_, hr⟩
  rcases sp_due hs h1 (by omega) (by omega) with q | ⟨q, q2⟩ <;> omega
/-- What is there at the later time, ahead of laying what was taken out too far. -/
theorem Iv.later {now t : Int} {R : Nat → List Rq} {M : List Rq} (h : Iv now R M) {top last : Nat} (hs : Sp now.toNat t.toNat top last) (h2 : last < 64) (ht : 1 ≤ t) (ht2 : t ≤ 157785119) :
    ∃ N, Iv t (tkR R 0 (top * 64 + (last + 1))) N ∧ ∀ z, z ∈ N ↔ z ∈ M ∧ t < z.1 ∧ (z ∉ tkL R 0 (top * 64 + (last + 1)) ∨ z ∈ ([] : List Rq)) := by
  have n1 := h.n1
  have n2 := h.n2
  have far : ∀ z, z ∈ M → z ∉ tkL R 0 (top * 64 + (last + 1)) → t < z.1 := fun z hz hn => by
    rcases Int.lt_or_le t z.1 with q | q
    · exact q
    · exact absurd (h.due hs h2 ht hz q) hn
  refine ⟨M.filter (fun z => !hasQ (tkL R 0 (top * 64 + (last + 1))) z), ⟨ht, ht2, List.Pairwise.sublist List.filter_sublist h.rs, ?_, fun z => ?_, fun k z hk hz => ?_, fun k hk => ?_⟩, fun z => ?_⟩
  · have := List.length_filter_le (fun z => !hasQ (tkL R 0 (top * 64 + (last + 1))) z) M
    have := h.len
    omega
  · rw [List.mem_filter, Bool.not_eq_true', hasQ_not, h.mem]
    constructor
    · rintro ⟨⟨k, hk, q⟩, n⟩
      refine ⟨k, hk, ?_⟩
      unfold tkR
      rw [if_neg (fun e => n (tkL_mem.2 ⟨k, e.1, e.2, q⟩))]
      exact q
    · rintro ⟨k, hk, q⟩
      unfold tkR at q
      split at q
      · cases q
      · rename_i e
        refine ⟨⟨k, hk, q⟩, fun q2 => ?_⟩
        obtain ⟨j, j1, j2, j3⟩ := tkL_mem.1 q2
        have hj : j < 320 := by
          have := (hs.lt (by omega) (by omega)).1
          omega
        have := h.one hk hj q j3
        omega
  · unfold tkR at hz
    split at hz
    · cases hz
    · rename_i e
      obtain ⟨a, b, l, s, h1, e2⟩ := h.at_ k z hk hz
      have hs6 := (h1.lt (by omega) (by omega)).2
      have hn : ¬ (l < top ∨ (l = top ∧ s ≤ last)) := by omega
      refine ⟨?_, b, l, s, sp_kept hs h1 hn, e2⟩
      rcases Int.lt_or_le t z.1 with q | q
      · exact q
      · exact absurd (sp_due hs h1 (by omega) (by omega)) hn
  · unfold tkR
    split
    · exact List.nodup_nil
    · exact h.nd k hk
  · rw [List.mem_filter, Bool.not_eq_true', hasQ_not]
    constructor
    · rintro ⟨q1, q2⟩
      exact ⟨q1, far z q1 q2, Or.inl q2⟩
    · rintro ⟨q1, _, q3 | q3⟩
      · exact ⟨q1, q3⟩
      · cases q3
/-- One that was taken out too far is laid again. -/
theorem Iv.again {now t : Int} {R Ri : Nat → List Rq} {M N P Q : List Rq} {r : Rq} {l s : Nat} (h : Iv now R M) (hN : Iv t Ri N) (hm : ∀ z, z ∈ N ↔ z ∈ M ∧ t < z.1 ∧ (z ∉ P ∨ z ∈ Q)) (hrM : r ∈ M) (hrP : r ∈ P) (hrQ : r ∉ Q) (ht : t < r.1) (hk : l * 64 + s < 320) (hs : Sp t.toNat r.1.toNat l s) :
    ∃ N', Iv t (upd Ri (l * 64 + s) (Ri (l * 64 + s) ++ [r])) N' ∧ ∀ z, z ∈ N' ↔ z ∈ M ∧ t < z.1 ∧ (z ∉ P ∨ z ∈ Q ++ [r]) := by
  have hrN : r ∉ N := fun q => by
    rcases ((hm r).1 q).2.2 with e | e
    · exact e hrP
    · exact hrQ e
  have hlen : N.length < 400 := by
    have := nd_len (P := r :: N) (M := M) (List.nodup_cons.2 ⟨hrN, rs_nd hN.rs⟩) (fun z hz => by
      rcases List.mem_cons.1 hz with rfl | q
      · exact hrM
      · exact ((hm z).1 q).1)
    have := h.len
    simp only [List.length_cons] at *
    omega
  refine ⟨put N r, hN.add hk hs ht (h.in_ hrM).2 hrN hlen, fun z => ?_⟩
  rw [put_mem hrN, hm, List.mem_append, List.mem_singleton]
  constructor
  · rintro (⟨q1, q2, q3⟩ | rfl)
    · exact ⟨q1, q2, q3.imp id Or.inl⟩
    · exact ⟨hrM, ht, Or.inr (Or.inr rfl)⟩
  · rintro ⟨q1, q2, q3 | q3 | q3⟩
    · exact Or.inl ⟨q1, q2, Or.inl q3⟩
    · exact Or.inl ⟨q1, q2, Or.inr q3⟩
    · exact Or.inr q3
/-- What is due by a time, and what is not. -/
def dueQ (M : List Rq) (t : Int) : List Rq := M.filter (fun z => decide (z.1 ≤ t))
def laterQ (M : List Rq) (t : Int) : List Rq := M.filter (fun z => decide (t < z.1))
theorem dueQ_mem {M : List Rq} {t : Int} {z : Rq} : z ∈ dueQ M t ↔ z ∈ M ∧ z.1 ≤ t := by unfold dueQ; rw [List.mem_filter, decide_eq_true_iff]
theorem laterQ_mem {M : List Rq} {t : Int} {z : Rq} : z ∈ laterQ M t ↔ z ∈ M ∧ t < z.1 := by unfold laterQ; rw [List.mem_filter, decide_eq_true_iff]
theorem dueQ_rs {M : List Rq} {t : Int} (h : Rs M) : Rs (dueQ M t) := List.Pairwise.sublist List.filter_sublist h
theorem laterQ_rs {M : List Rq} {t : Int} (h : Rs M) : Rs (laterQ M t) := List.Pairwise.sublist List.filter_sublist h
theorem due_later : ∀ (M : List Rq) (t : Int), (dueQ M t).length + (laterQ M t).length = M.length
  | [], _ => rfl
  | x :: M, t => by
    have ih := due_later M t
    unfold dueQ laterQ at *
    by_cases h : x.1 ≤ t
    · rw [List.filter_cons_of_pos (by simpa using h), List.filter_cons_of_neg (by simp; omega)]
      simp only [List.length_cons]
      omega
    · rw [List.filter_cons_of_neg (by simpa using h), List.filter_cons_of_pos (by simp; omega)]
      simp only [List.length_cons]
      omega
/-- What is sorted of what is due. -/
theorem sorted_rs {B : List Rq} (h : B.Pairwise (fun x y => ¬ oc y x < 0)) (hn : B.Nodup) : Rs B := by
  have h2 := List.Pairwise.and h hn
  exact List.Pairwise.imp (fun {a c} q => by
    have h1 : ¬ oc a c = 0 := fun e => q.2 ((oc_cm.eq a c).1 e)
    have h3 : ¬ 0 < oc a c := fun e => q.1 ((oc_cm.anti c a).2 e)
    omega) h2
theorem sorted_due {now t : Int} {R : Nat → List Rq} {M P D B : List Rq} (h : Iv now R M) (hP : P.Nodup) (hPM : ∀ z, z ∈ P → z ∈ M) (hdue : ∀ z, z ∈ M → z.1 ≤ t → z ∈ P) (hD : D = P.filter (fun z => decide (z.1 ≤ t))) (hB : D.Perm B) (hs : B.Pairwise (fun x y => ¬ oc y x < 0)) : B = dueQ M t := by
  have nD : D.Nodup := by rw [hD]; exact List.Pairwise.sublist List.filter_sublist hP
  refine rs_ext (sorted_rs hs (hB.nodup_iff.1 nD)) (dueQ_rs h.rs) (fun z => ?_)
  rw [← hB.mem_iff, hD, List.mem_filter, decide_eq_true_iff, dueQ_mem]
  exact ⟨fun q => ⟨hPM z q.1, q.2⟩, fun q => ⟨hdue z q.1 q.2, q.2⟩⟩
/-- The end of going on. -/
theorem Iv.fin {t : Int} {Ri : Nat → List Rq} {M N P : List Rq} (hN : Iv t Ri N) (hM : Rs M) (hm : ∀ z, z ∈ N ↔ z ∈ M ∧ t < z.1 ∧ (z ∉ P ∨ z ∈ P)) : Iv t Ri (laterQ M t) := by
  have e : N = laterQ M t := rs_ext hN.rs (laterQ_rs hM) (fun z => by
    rw [hm, laterQ_mem]
    exact ⟨fun q => ⟨q.1, q.2.1⟩, fun q => ⟨q.1, q.2, (Classical.em _).symm⟩⟩)
  rw [← e]
  exact hN
/-- A wheel with its rings. -/
def Wl (w : World) (b : Nat) (S : Nat → Value) (now : Int) (M : List Rq) : Prop := ∃ R, Wm w b now M.length S R ∧ Iv now R M
theorem Wl.inw {w : World} {b : Nat} {S : Nat → Value} {now : Int} {M : List Rq} (h : Wl w b S now M) {g : Nat} (hg : Ft b S g) : b ≤ g ∧ g < w.heap.size := by
  obtain ⟨R, h1, _⟩ := h
  exact h1.inw hg
theorem Wl.onB {w w' : World} {b : Nat} {S : Nat → Value} {now : Int} {M : List Rq} (h : Wl w b S now M) (q : Below w.heap.size w w') : Wl w' b S now M := by
  obtain ⟨R, h1, h2⟩ := h
  exact ⟨R, h1.onB q, h2⟩
theorem Wl.on {w w' : World} {b : Nat} {S : Nat → Value} {now : Int} {M : List Rq} (h : Wl w b S now M) (q : ∀ g, Ft b S g → w'.heap[g]? = w.heap[g]?) : Wl w' b S now M := by
  obtain ⟨R, h1, h2⟩ := h
  exact ⟨R, h1.on q, h2⟩
theorem Wl.rs {w : World} {b : Nat} {S : Nat → Value} {now : Int} {M : List Rq} (h : Wl w b S now M) : Rs M := by
  obtain ⟨R, _, h2⟩ := h
  exact h2.rs
theorem Wl.len {w : World} {b : Nat} {S : Nat → Value} {now : Int} {M : List Rq} (h : Wl w b S now M) : M.length ≤ 400 := by
  obtain ⟨R, _, h2⟩ := h
  exact h2.len
end Go.Proofs.YtpnbnnndpbjgmaaDoor.Qu
