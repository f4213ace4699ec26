/-
  What is proved here: plain facts on the text of a rule: what a rule's words are, which rule words tell, and that each is read as it was written; no program is named.
-/
import Derived.Test.YtdiijpjfkgnjkacDoorTxtList
import Derived.Test.YtdiijpjfkgnjkacDoorTxtTime
namespace Go.Proofs.YtdiijpjfkgnjkacDoor.Txt
open Go.Lib Cal

/-! The text of a date. -/
def dt3 (y m d : Nat) : List UInt8 := d2 (y / 100) ++ d2 y ++ [45] ++ d2 m ++ [45] ++ d2 d
/-- A day's date as text. -/
def dt (n : Int) : List UInt8 := dt3 (yr n).toNat (mo n).toNat (da n).toNat
/-- Midnight behind a date makes it the text of a time. -/
def mid : List UInt8 := [32, 48, 48, 58, 48, 48]
/-- Is a text of a date's form? -/
def dfB (l : List UInt8) : Bool := frm (l ++ mid)
def okB (y m d : Int) : Bool := decide (1900 ≤ y ∧ y ≤ 2199 ∧ 1 ≤ m ∧ m ≤ 12 ∧ 1 ≤ d ∧ d ≤ ml y m)
theorem okB_iff {y m d : Int} : okB y m d = true ↔ okD y m d := by unfold okB okD; rw [decide_eq_true_eq]
/-- The day of a text; none: it is no text of a date. -/
def dr (l : List UInt8) : Option Int := if (dfB l && okB (nm l 0 4) (nm l 5 7) (nm l 8 10)) = true then some (num (nm l 0 4) (nm l 5 7) (nm l 8 10)) else none
theorem tmt_dt (y m d : Nat) : tmt y m d 0 0 = dt3 y m d ++ mid := by
  unfold tmt dt3 mid
  simp [d2]
theorem nm_app (l r : List UInt8) (a b : Nat) (h : b ≤ l.length) : nm (l ++ r) a b = nm l a b := by
  unfold nm
  rcases Nat.lt_or_ge b a with q | q
  · rw [show b - a = 0 by omega]; simp
  · rw [List.drop_append_of_le_length (by omega), List.take_append_of_le_length (by rw [List.length_drop]; omega)]
theorem dfB_len {l : List UInt8} (h : dfB l = true) : l.length = 10 := by
  have := frm_len h
  simp [mid] at this
  omega
theorem dt3_len (y m d : Nat) : (dt3 y m d).length = 10 := rfl
theorem dr_dt {n : Int} (h1 : 1 ≤ n) (h2 : n ≤ 109573) : dr (dt n) = some n := by
  have ok := date_ok h1 h2
  obtain ⟨y1, y2, m1, m2, d1, d2⟩ := id ok
  have lb := ml_bd (yr n) (mo n)
  have F : dfB (dt n) = true := by unfold dfB dt; rw [← tmt_dt]; exact tmt_frm _ _ _ _ _
  obtain ⟨a, b, c, _, _⟩ := tmt_nm (yr n).toNat (mo n).toNat (da n).toNat 0 0 (by omega) (by omega) (by omega) (by omega) (by omega)
  rw [tmt_dt, nm_app _ _ _ _ (by rw [dt3_len]; omega)] at a b c
  have a' : ((nm (dt n) 0 4 : Nat) : Int) = yr n := by unfold dt; rw [a]; omega
  have b' : ((nm (dt n) 5 7 : Nat) : Int) = mo n := by unfold dt; rw [b]; omega
  have c' : ((nm (dt n) 8 10 : Nat) : Int) = da n := by unfold dt; rw [c]; omega
  unfold dr
  rw [a', b', c', F, okB_iff.2 ok, if_pos (show (true && true) = true from rfl), date_num]
theorem dt_dr {l : List UInt8} {n : Int} (h : dr l = some n) : dt n = l ∧ 1 ≤ n ∧ n ≤ 109573 := by
  unfold dr at h
  split at h
  · rename_i hk
    rw [Bool.and_eq_true] at hk
    obtain ⟨F, O⟩ := hk
    have O := okB_iff.1 O
    have e := Option.some.inj h
    have nb := num_bd O
    obtain ⟨e1, e2, e3⟩ := date_of O e
    have L := dfB_len F
    have B := frm_back F
    rw [nm_app _ _ _ _ (by omega), nm_app _ _ _ _ (by omega), nm_app _ _ _ _ (by omega)] at B
    have z1 : nm (l ++ mid) 11 13 = 0 := by
      unfold nm
      rw [List.drop_append, List.drop_eq_nil_of_le (by omega), L]; rfl
    have z2 : nm (l ++ mid) 14 16 = 0 := by
      unfold nm
      rw [List.drop_append, List.drop_eq_nil_of_le (by omega), L]; rfl
    rw [z1, z2, tmt_dt] at B
    refine ⟨?_, by omega, by omega⟩
    unfold dt
    rw [e1, e2, e3]
    exact List.append_cancel_right B
  · cases h

/-! Weekdays, with a number ahead or without. -/
/-- The names of the days, from 1 on. -/
def dn (k : Int) : List UInt8 := if k = 1 then [109, 111] else if k = 2 then [116, 117] else if k = 3 then [119, 101] else if k = 4 then [116, 104] else if k = 5 then [102, 114] else if k = 6 then [115, 97] else if k = 7 then [115, 117] else []
/-- Which day a name is; 0: none. -/
def dk (l : List UInt8) : Int := if l = [109, 111] then 1 else if l = [116, 117] then 2 else if l = [119, 101] then 3 else if l = [116, 104] then 4 else if l = [102, 114] then 5 else if l = [115, 97] then 6 else if l = [115, 117] then 7 else 0
theorem dn_len {k : Int} (h1 : 1 ≤ k) (h7 : k ≤ 7) : (dn k).length = 2 := by
  rcases (by omega : k = 1 ∨ k = 2 ∨ k = 3 ∨ k = 4 ∨ k = 5 ∨ k = 6 ∨ k = 7) with rfl | rfl | rfl | rfl | rfl | rfl | rfl <;> rfl
theorem dk_dn {k : Int} (h1 : 1 ≤ k) (h7 : k ≤ 7) : dk (dn k) = k := by
  rcases (by omega : k = 1 ∨ k = 2 ∨ k = 3 ∨ k = 4 ∨ k = 5 ∨ k = 6 ∨ k = 7) with rfl | rfl | rfl | rfl | rfl | rfl | rfl <;> decide
theorem dn_dk {l : List UInt8} (h : dk l ≠ 0) : dn (dk l) = l ∧ 1 ≤ dk l ∧ dk l ≤ 7 := by
  unfold dk at *
  repeat (split at h; (rename_i e; rw [if_pos e] ; subst e; decide); rename_i e; rw [if_neg e])
  exact absurd rfl h
/-- A weekday as text: its number, if it is not 0, and its name. -/
def wt (x : Int × Int) : List UInt8 := (if x.1 = 0 then [] else nt x.1) ++ dn x.2
/-- The weekday of a text; none: it is none. -/
def wr (l : List UInt8) : Option (Int × Int) :=
  if l.length < 2 then none else if dk (l.drop (l.length - 2)) = 0 then none else
  if l.length = 2 then some (0, dk (l.drop (l.length - 2))) else
  match nr 4 (l.take (l.length - 2)) with
  | some n => if n = 0 then none else some (n, dk (l.drop (l.length - 2)))
  | none => none
theorem nt_ne (n : Int) : nt n ≠ [] := by
  unfold nt; split
  · simp
  · exact dec_ne _
theorem wr_wt {N k : Int} (h1 : 1 ≤ k) (h7 : k ≤ 7) (hN : N.natAbs < 10000) : wr (wt (N, k)) = some (N, k) := by
  have L := dn_len h1 h7
  have K := dk_dn h1 h7
  unfold wr wt
  by_cases hz : N = 0
  · subst hz
    simp only [if_true, List.nil_append, L, Nat.sub_self, List.drop_zero, K]
    rw [if_neg (by omega), if_neg (by omega)]
  · have hl : 1 ≤ (nt N).length := by
      cases hh : nt N with
      | nil => exact absurd hh (nt_ne N)
      | cons a l => simp
    have e1 : ((nt N ++ dn k).length - 2) = (nt N).length := by rw [List.length_append, L]; omega
    simp only [if_neg hz, e1, List.drop_left, List.take_left, K, nr_nt N 3 hN]
    rw [if_neg (by rw [List.length_append, L]; omega), if_neg (by omega), if_neg (by rw [List.length_append, L]; omega)]
theorem wt_wr {l : List UInt8} {N k : Int} (h : wr l = some (N, k)) : wt (N, k) = l ∧ 1 ≤ k ∧ k ≤ 7 ∧ N.natAbs < 10000 := by
  unfold wr at h
  split at h
  · cases h
  split at h
  · cases h
  rename_i hl hd
  obtain ⟨D, D1, D7⟩ := dn_dk hd
  split at h
  · rename_i h2
    have e := Option.some.inj h
    have e1 : (0 : Int) = N := congrArg Prod.fst e
    have e2 : dk (l.drop (l.length - 2)) = k := congrArg Prod.snd e
    subst e1 e2
    refine ⟨?_, D1, D7, by decide⟩
    unfold wt
    rw [D, h2]; simp
  · cases hn : nr 4 (l.take (l.length - 2)) with
    | none => rw [hn] at h; cases h
    | some n =>
      rw [hn] at h
      dsimp only at h
      split at h
      · cases h
      · rename_i hz
        have e := Option.some.inj h
        have e1 : n = N := congrArg Prod.fst e
        have e2 : dk (l.drop (l.length - 2)) = k := congrArg Prod.snd e
        subst e1 e2
        obtain ⟨a, b⟩ := nt_nr hn
        refine ⟨?_, D1, D7, b⟩
        unfold wt
        dsimp only
        rw [if_neg hz, D, a]
        exact List.take_append_drop _ _

/-! Lists, with commas between. -/
def mapO {α : Type} (rd : List UInt8 → Option α) : List (List UInt8) → Option (List α)
  | [] => some []
  | w :: ws => match rd w with
    | some x => (mapO rd ws).map (x :: ·)
    | none => none
/-- The list of a text; none: it is none. -/
def lr {α : Type} (rd : List UInt8 → Option α) (l : List UInt8) : Option (List α) := mapO rd (cutAt 44 l)
/-- A list as text. -/
def lt {α : Type} (tx : α → List UInt8) (xs : List α) : List UInt8 := joinBy 44 (xs.map tx)
theorem mapO_map {α : Type} (rd : List UInt8 → Option α) (tx : α → List UInt8) (xs : List α) (h : ∀ x ∈ xs, rd (tx x) = some x) : mapO rd (xs.map tx) = some xs := by
  induction xs with
  | nil => rfl
  | cons x xs ih =>
    rw [List.map_cons]
    unfold mapO
    rw [h x (by simp), ih (fun y hy => h y (by simp [hy]))]
    rfl
theorem map_mapO {α : Type} (rd : List UInt8 → Option α) (tx : α → List UInt8) (hb : ∀ w x, rd w = some x → tx x = w) : ∀ (ws : List (List UInt8)) (xs : List α), mapO rd ws = some xs → xs.map tx = ws ∧ ∀ x ∈ xs, rd (tx x) = some x := by
  intro ws
  induction ws with
  | nil => intro xs h; simp [mapO] at h; subst h; simp
  | cons w ws ih =>
    intro xs h
    unfold mapO at h
    cases hw : rd w with
    | none => rw [hw] at h; cases h
    | some x =>
      rw [hw] at h
      obtain ⟨ys, hy, rfl⟩ := Option.map_eq_some_iff.1 h
      obtain ⟨a, b⟩ := ih ys hy
      refine ⟨by rw [List.map_cons, a, hb w x hw], fun z hz => ?_⟩
      rcases List.mem_cons.1 hz with rfl | hz
      · rw [hb w z hw]; exact hw
      · exact b z hz
theorem lr_lt {α : Type} (rd : List UInt8 → Option α) (tx : α → List UInt8) (xs : List α) (hn : xs ≠ []) (h : ∀ x ∈ xs, rd (tx x) = some x ∧ (44 : UInt8) ∉ tx x) : lr rd (lt tx xs) = some xs := by
  unfold lr lt
  rw [cut_join 44 (xs.map tx) (by simpa using hn) (fun w hw => by
    obtain ⟨x, hx, rfl⟩ := List.mem_map.1 hw
    exact (h x hx).2)]
  exact mapO_map rd tx xs (fun x hx => (h x hx).1)
theorem lt_lr {α : Type} (rd : List UInt8 → Option α) (tx : α → List UInt8) (hb : ∀ w x, rd w = some x → tx x = w) {l : List UInt8} {xs : List α} (h : lr rd l = some xs) : lt tx xs = l ∧ xs ≠ [] ∧ ∀ x ∈ xs, rd (tx x) = some x := by
  unfold lr at h
  obtain ⟨a, b⟩ := map_mapO rd tx hb _ _ h
  refine ⟨by unfold lt; rw [a]; exact join_cut 44 l, fun e => ?_, b⟩
  subst e
  exact cutAt_ne 44 l a.symm

theorem join_snoc (c : UInt8) (ws : List (List UInt8)) (w : List UInt8) (h : ws ≠ []) : joinBy c (ws ++ [w]) = joinBy c ws ++ c :: w := by
  induction ws with
  | nil => exact absurd rfl h
  | cons a l ih =>
    cases l with
    | nil => rfl
    | cons b l =>
      rw [List.cons_append, joinBy_cons c a (by simp), ih (by simp), joinBy_cons c a (by simp)]
      simp
theorem lt_snoc {α : Type} (tx : α → List UInt8) (xs : List α) (x : α) (h : xs ≠ []) : lt tx (xs ++ [x]) = lt tx xs ++ 44 :: tx x := by
  unfold lt
  rw [List.map_append, List.map_singleton, join_snoc 44 _ _ (by simpa using h)]
theorem lt_one {α : Type} (tx : α → List UInt8) (x : α) : lt tx [x] = tx x := rfl
theorem nt_len (n : Int) (h0 : -999999999 ≤ n) (h1 : n ≤ 999999999) : (nt n).length ≤ 10 := by
  have := dec_len n.natAbs 8 (by omega)
  unfold nt
  split <;> simp <;> omega

/-! What bytes a number, a date, a weekday have. -/
/-- Digits, '-', letters: neither ',' nor a blank. -/
def word (c : UInt8) : Bool := decide (c ≠ 44 ∧ c ≠ 32)
theorem word_dg {c : UInt8} (h : isDg c = true) : word c = true := by
  have := isDg_iff.1 h
  unfold word
  rw [decide_eq_true_eq]
  refine ⟨fun e => ?_, fun e => ?_⟩ <;> subst e <;> exact absurd h (by decide)
theorem nt_word (n : Int) : ∀ c ∈ nt n, word c = true := by
  intro c hc
  unfold nt at hc
  split at hc
  · rcases List.mem_cons.1 hc with rfl | hc
    · decide
    · exact word_dg (dec_is _ c hc)
  · exact word_dg (dec_is _ c hc)
theorem d2_word (n : Nat) : ∀ c ∈ d2 n, word c = true := fun c hc => word_dg (d2_is n c hc)
theorem dt_word (n : Int) : ∀ c ∈ dt n, word c = true := by
  intro c hc
  unfold dt dt3 at hc
  simp only [List.mem_append, List.mem_singleton] at hc
  rcases hc with ((((hc | hc) | rfl) | hc) | rfl) | hc
  · exact d2_word _ c hc
  · exact d2_word _ c hc
  · decide
  · exact d2_word _ c hc
  · decide
  · exact d2_word _ c hc
theorem dn_word (k : Int) : ∀ c ∈ dn k, word c = true := by
  unfold dn
  repeat (split; (intro c hc; simp only [List.mem_cons, List.not_mem_nil, or_false] at hc; rcases hc with rfl | rfl <;> decide))
  intro c hc; simp at hc
theorem wt_word (x : Int × Int) : ∀ c ∈ wt x, word c = true := by
  intro c hc
  unfold wt at hc
  rcases List.mem_append.1 hc with hc | hc
  · split at hc
    · simp at hc
    · exact nt_word _ c hc
  · exact dn_word _ c hc
theorem no_comma {l : List UInt8} (h : ∀ c ∈ l, word c = true) : (44 : UInt8) ∉ l := fun k => absurd (h 44 k) (by decide)
theorem no_blank {l : List UInt8} (h : ∀ c ∈ l, word c = true) : (32 : UInt8) ∉ l := fun k => absurd (h 32 k) (by decide)
theorem lt_blank {α : Type} (tx : α → List UInt8) (xs : List α) (h : ∀ x, ∀ c ∈ tx x, word c = true) : (32 : UInt8) ∉ lt tx xs := by
  unfold lt
  induction xs with
  | nil => simp [joinBy]
  | cons x xs ih =>
    cases xs with
    | nil => simpa [joinBy] using no_blank (h x)
    | cons y ys =>
      rw [List.map_cons, joinBy_cons 44 (tx x) (by simp)]
      intro hc
      rcases List.mem_append.1 hc with hc | hc
      · exact no_blank (h x) hc
      · rcases List.mem_cons.1 hc with hc | hc
        · exact absurd hc (by decide)
        · exact ih hc
end Go.Proofs.YtdiijpjfkgnjkacDoor.Txt
