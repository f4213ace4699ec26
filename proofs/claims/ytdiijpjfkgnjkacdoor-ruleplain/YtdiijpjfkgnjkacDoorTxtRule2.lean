/-
  What is proved here: plain facts on the words of a rule: that a rule is read as it was written, and a text that is read is written so; no program is named.
-/
import Derived.Test.YtdiijpjfkgnjkacDoorTxtRule
namespace Go.Proofs.YtdiijpjfkgnjkacDoor.Txt
open Go.Lib Cal

/-- A rule. -/
structure Rl where
  freq : Int
  every : Int
  count : Int
  till : Int
  months : List Int
  days : List Int
  weeks : List (Int × Int)
  pick : List Int
/-- The words by which parts of a rule begin. -/
def kw (k : Nat) : List UInt8 := if k = 0 then [101, 118, 101, 114, 121] else if k = 1 then [99, 111, 117, 110, 116] else if k = 2 then [117, 110, 116, 105, 108] else if k = 3 then [109, 111, 110, 116, 104, 115] else if k = 4 then [100, 97, 121, 115] else if k = 5 then [111, 110] else [112, 105, 99, 107]
/-- How often. -/
def fq (k : Int) : List UInt8 := if k = 1 then [100, 97, 105, 108, 121] else if k = 2 then [119, 101, 101, 107, 108, 121] else if k = 3 then [109, 111, 110, 116, 104, 108, 121] else if k = 4 then [121, 101, 97, 114, 108, 121] else []
def fk (l : List UInt8) : Int := if l = [100, 97, 105, 108, 121] then 1 else if l = [119, 101, 101, 107, 108, 121] then 2 else if l = [109, 111, 110, 116, 104, 108, 121] then 3 else if l = [121, 101, 97, 114, 108, 121] then 4 else 0
/-- The words of a part: none, or its word and its text. -/
def part (k : Nat) (r : Rl) : List (List UInt8) :=
  if k = 0 then (if r.every = 1 then [] else [kw 0, nt r.every])
  else if k = 1 then (if r.count = 0 then [] else [kw 1, nt r.count])
  else if k = 2 then (if r.till = 0 then [] else [kw 2, dt r.till])
  else if k = 3 then (if r.months = [] then [] else [kw 3, lt nt r.months])
  else if k = 4 then (if r.days = [] then [] else [kw 4, lt nt r.days])
  else if k = 5 then (if r.weeks = [] then [] else [kw 5, lt wt r.weeks])
  else (if r.pick = [] then [] else [kw 6, lt nt r.pick])
/-- The last so many parts. -/
def parts : Nat → Rl → List (List UInt8)
  | 0, _ => []
  | m + 1, r => part (6 - m) r ++ parts m r
/-- A rule as text. -/
def rt (r : Rl) : List UInt8 := joinBy 32 (fq r.freq :: parts 7 r)
/-- A part's text is read into a rule. -/
def ap (k : Nat) (v : List UInt8) (r : Rl) : Option Rl :=
  if k = 0 then (match nr 4 v with | some n => if n = 1 then none else some { r with every := n } | none => none)
  else if k = 1 then (match nr 4 v with | some n => if n = 0 then none else some { r with count := n } | none => none)
  else if k = 2 then (match dr v with | some n => some { r with till := n } | none => none)
  else if k = 3 then (match lr (nr 4) v with | some l => some { r with months := l } | none => none)
  else if k = 4 then (match lr (nr 4) v with | some l => some { r with days := l } | none => none)
  else if k = 5 then (match lr wr v with | some l => some { r with weeks := l } | none => none)
  else (match lr (nr 4) v with | some l => some { r with pick := l } | none => none)
/-- The last so many parts are read. -/
def rdF : Nat → Rl → List (List UInt8) → Option Rl
  | 0, r, ws => if ws = [] then some r else none
  | m + 1, r, ws => match ws with
    | [] => some r
    | [_] => none
    | w :: v :: rest => if w = kw (6 - m) then (match ap (6 - m) v r with | some r' => rdF m r' rest | none => none) else rdF m r ws
/-- A rule of words, ahead of its parts. -/
def r0 (f : Int) : Rl := { freq := f, every := 1, count := 0, till := 0, months := [], days := [], weeks := [], pick := [] }
/-- The rule of a text, as far as its form goes; none: it is no such text. -/
def rr (s : List UInt8) : Option Rl := match cutAt 32 s with
  | [] => none
  | w :: ws => if fk w = 0 then none else rdF 7 (r0 (fk w)) ws
/-- Rules that can be written. -/
def Syn (r : Rl) : Prop := (1 ≤ r.freq ∧ r.freq ≤ 4) ∧ r.every.natAbs < 10000 ∧ r.count.natAbs < 10000 ∧ (r.till = 0 ∨ (1 ≤ r.till ∧ r.till ≤ 109573)) ∧
  (∀ n ∈ r.months, n.natAbs < 10000) ∧ (∀ n ∈ r.days, n.natAbs < 10000) ∧ (∀ x ∈ r.weeks, x.1.natAbs < 10000 ∧ 1 ≤ x.2 ∧ x.2 ≤ 7) ∧ (∀ n ∈ r.pick, n.natAbs < 10000)
/-- A rule without its last so many parts. -/
def base (m : Nat) (r : Rl) : Rl where
  freq := r.freq
  every := if 7 ≤ m then 1 else r.every
  count := if 6 ≤ m then 0 else r.count
  till := if 5 ≤ m then 0 else r.till
  months := if 4 ≤ m then [] else r.months
  days := if 3 ≤ m then [] else r.days
  weeks := if 2 ≤ m then [] else r.weeks
  pick := if 1 ≤ m then [] else r.pick
theorem fk_fq {k : Int} (h1 : 1 ≤ k) (h4 : k ≤ 4) : fk (fq k) = k := by
  rcases (by omega : k = 1 ∨ k = 2 ∨ k = 3 ∨ k = 4) with rfl | rfl | rfl | rfl <;> decide
theorem fq_fk {l : List UInt8} (h : fk l ≠ 0) : fq (fk l) = l ∧ 1 ≤ fk l ∧ fk l ≤ 4 := by
  unfold fk at *
  repeat (split at h; (rename_i e; rw [if_pos e]; subst e; decide); rename_i e; rw [if_neg e])
  exact absurd rfl h
theorem seven {m : Nat} (h : m < 7) : m = 0 ∨ m = 1 ∨ m = 2 ∨ m = 3 ∨ m = 4 ∨ m = 5 ∨ m = 6 := by omega
theorem kw_ne {i j : Nat} (hi : i < 7) (hj : j < 7) (h : i ≠ j) : kw i ≠ kw j := by
  rcases seven hi with rfl | rfl | rfl | rfl | rfl | rfl | rfl <;> rcases seven hj with rfl | rfl | rfl | rfl | rfl | rfl | rfl <;> first | (exact absurd rfl h) | decide
/-- A part is none, or begins by its word. -/
theorem part_two (k : Nat) (hk : k < 7) (r : Rl) : part k r = [] ∨ ∃ v, part k r = [kw k, v] := by
  rcases seven hk with rfl | rfl | rfl | rfl | rfl | rfl | rfl <;> simp only [part] <;> simp <;> split <;> simp_all
theorem parts_head (m : Nat) (hm : m ≤ 7) (r : Rl) : parts m r = [] ∨ ∃ k v rest, 7 - m ≤ k ∧ k < 7 ∧ parts m r = kw k :: v :: rest := by
  induction m with
  | zero => exact Or.inl rfl
  | succ m ih =>
    unfold parts
    rcases part_two (6 - m) (by omega) r with e | ⟨v, e⟩
    · rw [e, List.nil_append]
      rcases ih (by omega) with e | ⟨k, v, rest, a, b, c⟩
      · exact Or.inl e
      · exact Or.inr ⟨k, v, rest, by omega, b, c⟩
    · rw [e]
      exact Or.inr ⟨6 - m, v, parts m r, by omega, by omega, rfl⟩
/-- What is not there is passed by. -/
theorem rdF_pass (m : Nat) (hm : m < 7) (q r : Rl) : rdF (m + 1) q (parts m r) = rdF m q (parts m r) := by
  rcases parts_head m (by omega) r with e | ⟨k, v, rest, a, b, c⟩
  · rw [e]
    cases m <;> simp [rdF]
  · rw [c]
    conv => lhs; unfold rdF
    dsimp only
    rw [if_neg (kw_ne (j := 6 - m) b (by omega) (by omega))]
theorem rdF_hit (m : Nat) {q q' : Rl} {v : List UInt8} (h : ap (6 - m) v q = some q') (rest : List (List UInt8)) : rdF (m + 1) q (kw (6 - m) :: v :: rest) = rdF m q' rest := by
  conv => lhs; unfold rdF
  dsimp only
  rw [if_pos rfl, h]
theorem nrs {n : Int} (h : n.natAbs < 10000) : nr 4 (nt n) = some n := nr_nt n 3 h
theorem lrs {l : List Int} (hn : l ≠ []) (h : ∀ n ∈ l, n.natAbs < 10000) : lr (nr 4) (lt nt l) = some l :=
  lr_lt (nr 4) nt l hn (fun n hm => ⟨nrs (h n hm), no_comma (nt_word n)⟩)
theorem lws {l : List (Int × Int)} (hn : l ≠ []) (h : ∀ x ∈ l, x.1.natAbs < 10000 ∧ 1 ≤ x.2 ∧ x.2 ≤ 7) : lr wr (lt wt l) = some l :=
  lr_lt wr wt l hn (fun x hm => ⟨wr_wt (h x hm).2.1 (h x hm).2.2 (h x hm).1, no_comma (wt_word x)⟩)
/-- One part: where it is none nothing is missing, else its text is read into what was there. -/
theorem part_read (m : Nat) (hm : m < 7) (r : Rl) (h : Syn r) : (part (6 - m) r = [] ∧ base (m + 1) r = base m r) ∨ ∃ v, part (6 - m) r = [kw (6 - m), v] ∧ ap (6 - m) v (base (m + 1) r) = some (base m r) := by
  obtain ⟨_, h1, h2, h3, h4, h5, h6, h7⟩ := h
  rcases seven hm with rfl | rfl | rfl | rfl | rfl | rfl | rfl
  · by_cases e : r.pick = []
    · exact Or.inl ⟨by simp [part, e], by simp [base, e]⟩
    · exact Or.inr ⟨lt nt r.pick, by simp [part, e], by simp [ap, lrs e h7, base]⟩
  · by_cases e : r.weeks = []
    · exact Or.inl ⟨by simp [part, e], by simp [base, e]⟩
    · exact Or.inr ⟨lt wt r.weeks, by simp [part, e], by simp [ap, lws e h6, base]⟩
  · by_cases e : r.days = []
    · exact Or.inl ⟨by simp [part, e], by simp [base, e]⟩
    · exact Or.inr ⟨lt nt r.days, by simp [part, e], by simp [ap, lrs e h5, base]⟩
  · by_cases e : r.months = []
    · exact Or.inl ⟨by simp [part, e], by simp [base, e]⟩
    · exact Or.inr ⟨lt nt r.months, by simp [part, e], by simp [ap, lrs e h4, base]⟩
  · by_cases e : r.till = 0
    · exact Or.inl ⟨by simp [part, e], by simp [base, e]⟩
    · have k := h3.resolve_left e
      exact Or.inr ⟨dt r.till, by simp [part, e], by simp [ap, dr_dt k.1 k.2, base]⟩
  · by_cases e : r.count = 0
    · exact Or.inl ⟨by simp [part, e], by simp [base, e]⟩
    · exact Or.inr ⟨nt r.count, by simp [part, e], by simp [ap, nrs h2, base, e]⟩
  · by_cases e : r.every = 1
    · exact Or.inl ⟨by simp [part, e], by simp [base, e]⟩
    · exact Or.inr ⟨nt r.every, by simp [part, e], by simp [ap, nrs h1, base, e]⟩
theorem parts_read (m : Nat) (hm : m ≤ 7) (r : Rl) (h : Syn r) : rdF m (base m r) (parts m r) = some r := by
  induction m with
  | zero => simp [rdF, parts, base]
  | succ m ih =>
    have k := ih (by omega)
    rcases part_read m (by omega) r h with ⟨e, b⟩ | ⟨v, e, b⟩
    · show rdF (m + 1) (base (m + 1) r) (part (6 - m) r ++ parts m r) = some r
      rw [e, List.nil_append, rdF_pass m (by omega), b, k]
    · show rdF (m + 1) (base (m + 1) r) (part (6 - m) r ++ parts m r) = some r
      rw [e]
      exact (rdF_hit m b _).trans k
theorem kw_blank (k : Nat) : (32 : UInt8) ∉ kw k := by
  unfold kw
  repeat (split; decide)
  decide
theorem fq_blank (k : Int) : (32 : UInt8) ∉ fq k := by
  unfold fq
  repeat (split; decide)
  decide
theorem part_blank (k : Nat) (r : Rl) : ∀ w ∈ part k r, (32 : UInt8) ∉ w := by
  intro w hw
  unfold part at hw
  repeat (split at hw; (split at hw; (simp at hw); (simp only [List.mem_cons, List.not_mem_nil, or_false] at hw; rcases hw with rfl | rfl; (exact kw_blank _); first | exact no_blank (nt_word _) | exact no_blank (dt_word _) | exact lt_blank _ _ nt_word | exact lt_blank _ _ wt_word)))
  split at hw
  · simp at hw
  · simp only [List.mem_cons, List.not_mem_nil, or_false] at hw
    rcases hw with rfl | rfl
    · exact kw_blank _
    · exact lt_blank _ _ nt_word
theorem parts_blank (m : Nat) (r : Rl) : ∀ w ∈ parts m r, (32 : UInt8) ∉ w := by
  induction m with
  | zero => intro w hw; simp [parts] at hw
  | succ m ih =>
    intro w hw
    rcases List.mem_append.1 hw with hw | hw
    · exact part_blank _ r w hw
    · exact ih w hw
/-- A rule is read as it was written. -/
theorem rr_rt (r : Rl) (h : Syn r) : rr (rt r) = some r := by
  unfold rr rt
  rw [cut_join 32 _ (by simp) (fun w hw => by
    rcases List.mem_cons.1 hw with rfl | hw
    · exact fq_blank _
    · exact parts_blank 7 r w hw)]
  dsimp only
  rw [fk_fq h.1.1 h.1.2, if_neg (by have := h.1.1; omega)]
  exact parts_read 7 (by omega) r h

/-! And back. -/
theorem Rl.eq {a b : Rl} (h1 : a.freq = b.freq) (h2 : a.every = b.every) (h3 : a.count = b.count) (h4 : a.till = b.till) (h5 : a.months = b.months) (h6 : a.days = b.days) (h7 : a.weeks = b.weeks) (h8 : a.pick = b.pick) : a = b := by
  cases a; cases b; simp at *; exact ⟨h1, h2, h3, h4, h5, h6, h7, h8⟩
theorem part_base (m : Nat) (hm : m < 7) (r : Rl) : part (6 - m) (base m r) = part (6 - m) r := by
  rcases seven hm with rfl | rfl | rfl | rfl | rfl | rfl | rfl <;> simp [part, base]
theorem part_none (m : Nat) (hm : m < 7) (r : Rl) : part (6 - m) (base (m + 1) r) = [] := by
  rcases seven hm with rfl | rfl | rfl | rfl | rfl | rfl | rfl <;> simp [part, base]
theorem base_base (m : Nat) (hm : m < 7) (r : Rl) : base (m + 1) (base m r) = base (m + 1) r := by
  rcases seven hm with rfl | rfl | rfl | rfl | rfl | rfl | rfl <;> simp [base]
theorem base_le (m : Nat) (hm : m < 7) (r : Rl) : base m (base (m + 1) r) = base (m + 1) r := by
  rcases seven hm with rfl | rfl | rfl | rfl | rfl | rfl | rfl <;> simp [base]
theorem parts_none (m : Nat) (hm : m ≤ 7) (r : Rl) : parts m (base m r) = [] := by
  induction m generalizing r with
  | zero => rfl
  | succ m ih =>
    show part (6 - m) (base (m + 1) r) ++ parts m (base (m + 1) r) = []
    rw [part_none m (by omega), ← base_le m (by omega), ih (by omega)]
    rfl
theorem nr4 {v : List UInt8} {n : Int} (h : nr 4 v = some n) : nt n = v ∧ n.natAbs < 10000 := nt_nr h
theorem lr4 {v : List UInt8} {l : List Int} (h : lr (nr 4) v = some l) : lt nt l = v ∧ l ≠ [] ∧ ∀ n ∈ l, n.natAbs < 10000 := by
  obtain ⟨a, b, c⟩ := lt_lr (nr 4) nt (fun w x hx => (nt_nr hx).1) h
  exact ⟨a, b, fun n hn => (nt_nr (c n hn)).2⟩
theorem lrw {v : List UInt8} {l : List (Int × Int)} (h : lr wr v = some l) : lt wt l = v ∧ l ≠ [] ∧ ∀ x ∈ l, x.1.natAbs < 10000 ∧ 1 ≤ x.2 ∧ x.2 ≤ 7 := by
  obtain ⟨a, b, c⟩ := lt_lr wr wt (fun w x hx => (wt_wr (N := x.1) (k := x.2) hx).1) h
  exact ⟨a, b, fun x hx => by
    have := wt_wr (N := x.1) (k := x.2) (c x hx)
    exact ⟨this.2.2.2, this.2.1, this.2.2.1⟩⟩
/-- What a part's text is read into is that, with the part. -/
theorem ap_part (m : Nat) (hm : m < 7) {v : List UInt8} {q q' : Rl} (hq : base (m + 1) q = q) (hS : Syn q) (h : ap (6 - m) v q = some q') : part (6 - m) q' = [kw (6 - m), v] ∧ base (m + 1) q' = q ∧ base m q' = q' ∧ Syn q' := by
  obtain ⟨g0, g1, g2, g3, g4, g5, g6, g7⟩ := hS
  rcases seven hm with rfl | rfl | rfl | rfl | rfl | rfl | rfl
  · cases e : lr (nr 4) v with
    | none => simp [ap, e] at h
    | some l =>
      simp [ap, e] at h
      subst h
      obtain ⟨a, b, c⟩ := lr4 e
      rw [← hq]
      exact ⟨by simp [part, a, b], by simp [base], by simp [base], g0, g1, g2, g3, g4, g5, g6, c⟩
  · cases e : lr wr v with
    | none => simp [ap, e] at h
    | some l =>
      simp [ap, e] at h
      subst h
      obtain ⟨a, b, c⟩ := lrw e
      rw [← hq]
      exact ⟨by simp [part, a, b], by simp [base], by simp [base], g0, g1, g2, g3, g4, g5, c, by simp [base]⟩
  · cases e : lr (nr 4) v with
    | none => simp [ap, e] at h
    | some l =>
      simp [ap, e] at h
      subst h
      obtain ⟨a, b, c⟩ := lr4 e
      rw [← hq]
      exact ⟨by simp [part, a, b], by simp [base], by simp [base], g0, g1, g2, g3, g4, c, by simp [base], by simp [base]⟩
  · cases e : lr (nr 4) v with
    | none => simp [ap, e] at h
    | some l =>
      simp [ap, e] at h
      subst h
      obtain ⟨a, b, c⟩ := lr4 e
      rw [← hq]
      exact ⟨by simp [part, a, b], by simp [base], by simp [base], g0, g1, g2, g3, c, by simp [base], by simp [base], by simp [base]⟩
  · cases e : dr v with
    | none => simp [ap, e] at h
    | some n =>
      simp [ap, e] at h
      subst h
      obtain ⟨a, b, c⟩ := dt_dr e
      rw [← hq]
      exact ⟨by simp [part, a]; omega, by simp [base], by simp [base], g0, g1, g2, Or.inr ⟨b, c⟩, by simp [base], by simp [base], by simp [base], by simp [base]⟩
  · cases e : nr 4 v with
    | none => simp [ap, e] at h
    | some n =>
      simp [ap, e] at h
      obtain ⟨hn, h⟩ := h
      subst h
      obtain ⟨a, b⟩ := nr4 e
      rw [← hq]
      exact ⟨by simp [part, a, hn], by simp [base], by simp [base], g0, g1, b, by simp [base], by simp [base], by simp [base], by simp [base], by simp [base]⟩
  · cases e : nr 4 v with
    | none => simp [ap, e] at h
    | some n =>
      simp [ap, e] at h
      obtain ⟨hn, h⟩ := h
      subst h
      obtain ⟨a, b⟩ := nr4 e
      rw [← hq]
      exact ⟨by simp [part, a, hn], by simp [base], by simp [base], g0, b, by simp [base], by simp [base], by simp [base], by simp [base], by simp [base], by simp [base]⟩
theorem rdF_back (m : Nat) (hm : m ≤ 7) : ∀ (q r : Rl) (ws : List (List UInt8)), base m q = q → Syn q → rdF m q ws = some r → ws = parts m r ∧ base m r = q ∧ Syn r := by
  induction m with
  | zero =>
    intro q r ws hq hS h
    unfold rdF at h
    split at h
    · rename_i e
      obtain rfl := Option.some.inj h
      exact ⟨e, hq, hS⟩
    · cases h
  | succ m ih =>
    intro q r ws hq hS h
    have hq' : base m q = q := by rw [← hq]; exact base_le m (by omega) q
    match ws, h with
    | [], h =>
      unfold rdF at h
      obtain rfl := Option.some.inj h
      exact ⟨by rw [← hq, parts_none (m + 1) hm], hq, hS⟩
    | [_], h => unfold rdF at h; cases h
    | w :: v :: rest, h =>
      unfold rdF at h
      dsimp only at h
      split at h
      · rename_i hw
        cases ha : ap (6 - m) v q with
        | none => rw [ha] at h; cases h
        | some q' =>
          rw [ha] at h
          obtain ⟨p1, p2, p3, p4⟩ := ap_part m (by omega) hq hS ha
          obtain ⟨b1, b2, b3⟩ := ih (by omega) q' r rest p3 p4 h
          refine ⟨?_, ?_, b3⟩
          · show w :: v :: rest = part (6 - m) r ++ parts m r
            rw [← part_base m (by omega) r, b2, p1, ← b1, hw]; rfl
          · rw [← base_base m (by omega), b2, p2]
      · obtain ⟨b1, b2, b3⟩ := ih (by omega) q r (w :: v :: rest) hq' hS h
        refine ⟨?_, ?_, b3⟩
        · show w :: v :: rest = part (6 - m) r ++ parts m r
          rw [← part_base m (by omega) r, b2, ← hq, part_none m (by omega), b1]; rfl
        · rw [← base_base m (by omega), b2, hq]
theorem syn_r0 {f : Int} (h1 : 1 ≤ f) (h4 : f ≤ 4) : Syn (r0 f) := ⟨⟨h1, h4⟩, by simp [r0], by simp [r0], Or.inl rfl, by simp [r0], by simp [r0], by simp [r0], by simp [r0]⟩
/-- What is read as a rule is its text. -/
theorem rt_rr {s : List UInt8} {r : Rl} (h : rr s = some r) : rt r = s ∧ Syn r := by
  unfold rr at h
  cases hc : cutAt 32 s with
  | nil => exact absurd hc (cutAt_ne 32 s)
  | cons w ws =>
    rw [hc] at h
    dsimp only at h
    split at h
    · cases h
    · rename_i hf
      obtain ⟨a, b, c⟩ := fq_fk hf
      obtain ⟨p1, p2, p3⟩ := rdF_back 7 (by omega) (r0 (fk w)) r ws rfl (syn_r0 b c) h
      refine ⟨?_, p3⟩
      have ef : r.freq = fk w := congrArg Rl.freq p2
      unfold rt
      rw [ef, a, ← p1, ← hc, join_cut]
end Go.Proofs.YtdiijpjfkgnjkacDoor.Txt
