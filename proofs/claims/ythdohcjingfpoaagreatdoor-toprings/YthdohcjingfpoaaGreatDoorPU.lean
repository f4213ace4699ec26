/-
  What is proved here: plain facts on the calendar's numbers (how long years and months are, which day a date is, and that each day has just one date); no program is named.
  What is proved here: plain facts on zones: what is wrong with one, how many shifts have begun, how far it is ahead, and when it is so there.
-/
namespace Go.Proofs.YthdohcjingfpoaaGreatDoor.Cal
/-- Is a year leap? -/
def lp (y : Int) : Bool := (y % 4 == 0 && y % 100 != 0) || y % 400 == 0
/-- Days more than 365. -/
def lx (y : Int) : Int := if lp y = true then 1 else 0
/-- Days ahead of a year, from 1900 on. -/
def bef (y : Int) : Int := (y - 1900) * 365 + ((y - 1) / 4 - (y - 1) / 100 + (y - 1) / 400 - 460)
/-- How long a month of a year without a day more is: the table, from place 0 on. -/
def md (i : Int) : Int := if i = 1 then 28 else if i = 3 ∨ i = 5 ∨ i = 8 ∨ i = 10 then 30 else 31
/-- How long a month is. -/
def ml (y m : Int) : Int := if m = 2 then 28 + lx y else md (m - 1)
/-- Days of a year ahead of a month (13: all). -/
def cum (y m : Int) : Int :=
  if m ≤ 1 then 0 else if m = 2 then 31 else
  (if m = 3 then 59 else if m = 4 then 90 else if m = 5 then 120 else if m = 6 then 151 else if m = 7 then 181 else if m = 8 then 212 else if m = 9 then 243 else if m = 10 then 273 else if m = 11 then 304 else if m = 12 then 334 else 365) + lx y
/-- The number of a date. -/
def num (y m d : Int) : Int := bef y + d + cum y m
/-- Is it a date? -/
def okD (y m d : Int) : Prop := 1900 ≤ y ∧ y ≤ 2199 ∧ 1 ≤ m ∧ m ≤ 12 ∧ 1 ≤ d ∧ d ≤ ml y m

theorem lx_01 (y : Int) : 0 ≤ lx y ∧ lx y ≤ 1 := by unfold lx; split <;> omega
theorem lp_iff (y : Int) : lp y = true ↔ ((y % 4 = 0 ∧ ¬ y % 100 = 0) ∨ y % 400 = 0) := by
  unfold lp; simp
theorem tm (y : Int) (k : Int) : y.tmod k = 0 ↔ y % k = 0 := by rw [← Int.dvd_iff_tmod_eq_zero, ← Int.dvd_iff_emod_eq_zero]
theorem lp_t1 {y : Int} (h1 : y.tmod 4 = 0) (h2 : y.tmod 100 = 0) : (y.tmod 400 == 0) = lp y := by
  rw [Bool.eq_iff_iff, lp_iff, beq_iff_eq, tm]; rw [tm] at h1 h2; omega
theorem lp_t2 {y : Int} (h1 : y.tmod 4 = 0) (h2 : ¬ y.tmod 100 = 0) : true = lp y := by
  rw [Bool.eq_iff_iff, lp_iff]; rw [tm] at h1 h2; simp; omega
theorem lp_t3 {y : Int} (h1 : ¬ y.tmod 4 = 0) : (y.tmod 400 == 0) = lp y := by
  rw [Bool.eq_iff_iff, lp_iff, beq_iff_eq, tm]; rw [tm] at h1; omega
theorem lx_pos {y : Int} (h : lp y = true) : lx y = 1 := by unfold lx; rw [if_pos h]
theorem lx_neg {y : Int} (h : lp y = false) : lx y = 0 := by unfold lx; rw [if_neg (by simp [h])]
theorem bef_succ (y : Int) : bef (y + 1) = bef y + 365 + lx y := by
  unfold bef
  rcases h : lp y with _ | _
  · rw [lx_neg h]
    have h' : ¬ ((y % 4 = 0 ∧ ¬ y % 100 = 0) ∨ y % 400 = 0) := fun k => by rw [(lp_iff y).2 k] at h; cases h
    omega
  · rw [lx_pos h]
    have h' := (lp_iff y).1 h
    omega
theorem bef_mono {a b : Int} (h : a ≤ b) : bef a ≤ bef b := by unfold bef; omega
theorem bef_first : bef 1900 = 0 := by decide
theorem bef_last : bef 2200 = 109573 := by decide
theorem bef_bd (y : Int) (h0 : 1900 ≤ y) (h1 : y ≤ 2200) : 0 ≤ bef y ∧ bef y ≤ 109573 := by
  have a := bef_mono h0; have b := bef_mono h1; rw [bef_first] at a; rw [bef_last] at b; exact ⟨a, b⟩
theorem md_bd (i : Int) : 28 ≤ md i ∧ md i ≤ 31 := by unfold md; split; omega; split <;> omega
theorem ml_bd (y m : Int) : 28 ≤ ml y m ∧ ml y m ≤ 31 := by
  have a := lx_01 y; have b := md_bd (m - 1); unfold ml; split <;> omega
theorem mcases {m : Int} (h1 : 1 ≤ m) (h2 : m ≤ 12) : m = 1 ∨ m = 2 ∨ m = 3 ∨ m = 4 ∨ m = 5 ∨ m = 6 ∨ m = 7 ∨ m = 8 ∨ m = 9 ∨ m = 10 ∨ m = 11 ∨ m = 12 := by omega
theorem cum_one (y : Int) : cum y 1 = 0 := by simp [cum]
theorem cum_succ (y m : Int) (h1 : 1 ≤ m) (h2 : m ≤ 12) : cum y (m + 1) = cum y m + ml y m := by
  rcases mcases h1 h2 with rfl | rfl | rfl | rfl | rfl | rfl | rfl | rfl | rfl | rfl | rfl | rfl <;> simp [cum, ml, md] <;> omega
theorem cum_end (y : Int) : cum y 13 = 365 + lx y := by simp [cum]
theorem cum_mono (y : Int) {a b : Int} (h0 : 1 ≤ a) (h : a ≤ b) (h1 : b ≤ 13) : cum y a ≤ cum y b := by
  have key : ∀ k : Nat, a + k ≤ 13 → cum y a ≤ cum y (a + k) := by
    intro k
    induction k with
    | zero => intro _; simp
    | succ k ih =>
      intro hk
      have e : a + ((k + 1 : Nat) : Int) = a + k + 1 := by omega
      have m := ml_bd y (a + k)
      rw [e, cum_succ y (a + k) (by omega) (by omega)]
      have := ih (by omega)
      omega
  have e : a + ((b - a).toNat : Int) = b := by omega
  have := key (b - a).toNat (by omega)
  rwa [e] at this
theorem cum_bd (y m : Int) (h1 : 1 ≤ m) (h2 : m ≤ 13) : 0 ≤ cum y m ∧ cum y m ≤ 366 := by
  have a := cum_mono y (Int.le_refl 1) h1 h2; have b := cum_mono y h1 h2 (Int.le_refl 13); have l := lx_01 y
  rw [cum_one] at a; rw [cum_end] at b; omega

/-- A date's number lies within its year. -/
theorem num_year {y m d : Int} (h : okD y m d) : bef y < num y m d ∧ num y m d ≤ bef (y + 1) := by
  obtain ⟨_, _, h1, h2, h3, h4⟩ := h
  have a := cum_bd y m h1 (by omega)
  have c := cum_succ y m h1 h2
  have e := cum_mono y (a := m + 1) (b := 13) (by omega) (by omega) (by omega)
  rw [cum_end] at e
  rw [bef_succ]
  unfold num
  omega
theorem num_bd {y m d : Int} (h : okD y m d) : 1 ≤ num y m d ∧ num y m d ≤ 109573 := by
  have a := num_year h
  have b := bef_bd y h.1 (by have := h.2.1; omega)
  have c := bef_bd (y + 1) (by have := h.1; omega) (by have := h.2.1; omega)
  omega
/-- Of two dates with one number the year, the month and the day are the same. -/
theorem num_inj {y m d y' m' d' : Int} (h : okD y m d) (h' : okD y' m' d') (e : num y m d = num y' m' d') : y = y' ∧ m = m' ∧ d = d' := by
  have a := num_year h; have a' := num_year h'
  have hy : y = y' := by
    rcases Int.lt_trichotomy y y' with k | k | k
    · have := bef_mono (a := y + 1) (b := y') (by omega); omega
    · exact k
    · have := bef_mono (a := y' + 1) (b := y) (by omega); omega
  subst hy
  obtain ⟨_, _, h1, h2, h3, h4⟩ := h
  obtain ⟨_, _, g1, g2, g3, g4⟩ := h'
  have c := cum_succ y m h1 h2
  have c' := cum_succ y m' g1 g2
  unfold num at e
  have hm : m = m' := by
    rcases Int.lt_trichotomy m m' with k | k | k
    · have := cum_mono y (a := m + 1) (b := m') (by omega) (by omega) (by omega); omega
    · exact k
    · have := cum_mono y (a := m' + 1) (b := m) (by omega) (by omega) (by omega); omega
  subst hm
  exact ⟨rfl, rfl, by omega⟩
/-- The first guess of a year is never too late. -/
theorem guess (n : Int) (h : 1 ≤ n) (h2 : n ≤ 109573) : 1900 ≤ 1900 + (n - 1) / 366 ∧ 1900 + (n - 1) / 366 ≤ 2199 ∧ bef (1900 + (n - 1) / 366) < n := by
  unfold bef; omega
/-- A day's year, sought from a year on. -/
def yrF : Nat → Int → Int → Int
  | 0, _, y => y
  | k + 1, n, y => if bef (y + 1) < n then yrF k n (y + 1) else y
/-- The month of a year's day, sought from a month on. -/
def moF : Nat → Int → Int → Int → Int
  | 0, _, _, m => m
  | k + 1, y, r, m => if cum y (m + 1) < r then moF k y r (m + 1) else m
/-- A day's date: year, month, day. -/
def yr (n : Int) : Int := yrF 300 n 1900
def mo (n : Int) : Int := moF 12 (yr n) (n - bef (yr n)) 1
def da (n : Int) : Int := n - bef (yr n) - cum (yr n) (mo n)
theorem yrF_spec (n : Int) (h2 : n ≤ 109573) : ∀ (k : Nat) (y : Int), 1900 ≤ y → y ≤ 2199 → bef y < n → (2199 - y).toNat ≤ k → 1900 ≤ yrF k n y ∧ yrF k n y ≤ 2199 ∧ bef (yrF k n y) < n ∧ n ≤ bef (yrF k n y + 1) := by
  intro k
  induction k with
  | zero =>
    intro y a b c d
    have : y = 2199 := by omega
    subst this
    exact ⟨a, b, c, by have := bef_last; show n ≤ bef 2200; omega⟩
  | succ k ih =>
    intro y a b c d
    unfold yrF
    split
    · rename_i g
      rcases Int.lt_or_le y 2199 with q | q
      · exact ih (y + 1) (by omega) (by omega) g (by omega)
      · have : y = 2199 := by omega
        subst this
        have e := bef_last
        have : (2199 : Int) + 1 = 2200 := by decide
        rw [this] at g; omega
    · exact ⟨a, b, c, by omega⟩
theorem moF_spec (y r : Int) (h2 : r ≤ 365 + lx y) : ∀ (k : Nat) (m : Int), 1 ≤ m → m ≤ 12 → cum y m < r → (12 - m).toNat ≤ k → 1 ≤ moF k y r m ∧ moF k y r m ≤ 12 ∧ cum y (moF k y r m) < r ∧ r ≤ cum y (moF k y r m + 1) := by
  intro k
  induction k with
  | zero =>
    intro m a b c d
    have : m = 12 := by omega
    subst this
    exact ⟨a, b, c, by have := cum_end y; show r ≤ cum y 13; omega⟩
  | succ k ih =>
    intro m a b c d
    unfold moF
    split
    · rename_i g
      rcases Int.lt_or_le m 12 with q | q
      · exact ih (m + 1) (by omega) (by omega) g (by omega)
      · have : m = 12 := by omega
        subst this
        have e := cum_end y
        have : (12 : Int) + 1 = 13 := by decide
        rw [this] at g; omega
    · exact ⟨a, b, c, by omega⟩
theorem yr_spec {n : Int} (h : 1 ≤ n) (h2 : n ≤ 109573) : 1900 ≤ yr n ∧ yr n ≤ 2199 ∧ bef (yr n) < n ∧ n ≤ bef (yr n + 1) :=
  yrF_spec n h2 300 1900 (by omega) (by omega) (by rw [bef_first]; omega) (by decide)
theorem date_ok {n : Int} (h : 1 ≤ n) (h2 : n ≤ 109573) : okD (yr n) (mo n) (da n) := by
  obtain ⟨a, b, c, d⟩ := yr_spec h h2
  rw [bef_succ] at d
  obtain ⟨e, f, g, k⟩ := moF_spec (yr n) (n - bef (yr n)) (by omega) 12 1 (by omega) (by omega) (by rw [cum_one]; omega) (by decide)
  have k' := cum_succ (yr n) (mo n) e f
  have g' : cum (yr n) (mo n) < n - bef (yr n) := g
  have k2 : n - bef (yr n) ≤ cum (yr n) (mo n + 1) := k
  exact ⟨a, b, e, f, by unfold da; omega, by unfold da; omega⟩
theorem date_num {n : Int} : num (yr n) (mo n) (da n) = n := by unfold num da; omega
theorem date_of {y m d n : Int} (h : okD y m d) (e : num y m d = n) : yr n = y ∧ mo n = m ∧ da n = d := by
  have b := num_bd h
  rw [e] at b
  exact num_inj (date_ok b.1 b.2) h (date_num.trans e.symm)
theorem yr_of {n y : Int} (h : 1 ≤ n) (h2 : n ≤ 109573) (a : bef y < n) (b : n ≤ bef (y + 1)) : yr n = y := by
  have k := num_year (date_ok h h2)
  rw [date_num] at k
  rcases Int.lt_trichotomy (yr n) y with q | q | q
  · have := bef_mono (a := yr n + 1) (b := y) (by omega); omega
  · exact q
  · have := bef_mono (a := y + 1) (b := yr n) (by omega); omega
theorem yr_bd {n : Int} (h : 1 ≤ n) (h2 : n ≤ 109573) : 1900 ≤ yr n ∧ yr n ≤ 2199 ∧ bef (yr n) < n ∧ n ≤ bef (yr n + 1) := by
  have k := num_year (date_ok h h2)
  rw [date_num] at k
  exact ⟨(date_ok h h2).1, (date_ok h h2).2.1, k⟩
theorem date_at {n k : Int} (h : 1 ≤ n) (h2 : n ≤ 109573) (k1 : 1 ≤ k) (k2 : k ≤ 12) (c : cum (yr n) k < n - bef (yr n)) (d : n - bef (yr n) - cum (yr n) k ≤ ml (yr n) k) :
    k = mo n ∧ n - bef (yr n) - cum (yr n) k = da n := by
  obtain ⟨a, b, _⟩ := yr_bd h h2
  have q := date_of (y := yr n) (m := k) (d := n - bef (yr n) - cum (yr n) k) (n := n) ⟨a, b, k1, k2, by omega, d⟩ (by unfold num; omega)
  exact ⟨q.2.1.symm, q.2.2.symm⟩
/-- The next day: of the same month, or the first of the next one. -/
theorem next_in {n : Int} (h : 1 ≤ n) (h2 : n + 1 ≤ 109573) (c : da n < ml (yr n) (mo n)) : yr (n + 1) = yr n ∧ mo (n + 1) = mo n ∧ da (n + 1) = da n + 1 := by
  obtain ⟨a1, a2, a3, a4, a5, a6⟩ := date_ok h (by omega)
  have e := date_num (n := n)
  exact date_of ⟨a1, a2, a3, a4, by omega, by omega⟩ (by unfold num at *; omega)
theorem next_month {n : Int} (h : 1 ≤ n) (h2 : n + 1 ≤ 109573) (c : ¬ da n < ml (yr n) (mo n)) (g : mo n < 12) : yr (n + 1) = yr n ∧ mo (n + 1) = mo n + 1 ∧ da (n + 1) = 1 := by
  obtain ⟨a1, a2, a3, a4, a5, a6⟩ := date_ok h (by omega)
  have e := date_num (n := n)
  have s := cum_succ (yr n) (mo n) a3 a4
  have l := ml_bd (yr n) (mo n + 1)
  exact date_of ⟨a1, a2, by omega, by omega, by omega, by omega⟩ (by unfold num at *; omega)
theorem next_year {n : Int} (h : 1 ≤ n) (h2 : n + 1 ≤ 109573) (c : ¬ da n < ml (yr n) (mo n)) (g : ¬ mo n < 12) : yr (n + 1) = yr n + 1 ∧ mo (n + 1) = 1 ∧ da (n + 1) = 1 := by
  obtain ⟨a1, a2, a3, a4, a5, a6⟩ := date_ok h (by omega)
  have e := date_num (n := n)
  have hm : mo n = 12 := by omega
  rw [hm] at e c a6
  have s : cum (yr n) 13 = cum (yr n) 12 + ml (yr n) 12 := cum_succ (yr n) 12 (by omega) (by omega)
  have t := cum_end (yr n)
  have b := bef_succ (yr n)
  have l := ml_bd (yr n + 1) 1
  have hn : n = bef (yr n + 1) := by unfold num at e; omega
  have hy : yr n < 2199 := by
    rcases Int.lt_or_le (yr n) 2199 with q | q
    · exact q
    · have q2 : yr n + 1 = 2200 := by omega
      rw [q2, bef_last] at hn; omega
  exact date_of ⟨by omega, by omega, by omega, by omega, by omega, by omega⟩ (by unfold num; rw [cum_one]; omega)
end Go.Proofs.YthdohcjingfpoaaGreatDoor.Cal
namespace Go.Proofs.YthdohcjingfpoaaGreatDoor
namespace Zo

/-- The fault of a shift, behind those ahead of it. -/
def sf (l : List (Int × Int)) (i : Nat) : Int :=
  if ¬ (1 ≤ (l.getD i (0, 0)).1 ∧ (l.getD i (0, 0)).1 ≤ 157785119) ∨ ¬ (-900 ≤ (l.getD i (0, 0)).2 ∧ (l.getD i (0, 0)).2 ≤ 900) then 1
  else if 0 < i ∧ (l.getD i (0, 0)).1 - (l.getD (i - 1) (0, 0)).1 < 1440 then 7 else 0
/-- The first fault of so many shifts. -/
def sfl (l : List (Int × Int)) : Nat → Int
  | 0 => 0
  | n + 1 => if sfl l n = 0 then sf l n else sfl l n
/-- The fault of a zone. -/
def zf (a : Int) (l : List (Int × Int)) : Int :=
  if 20 < l.length then 4 else if ¬ (-900 ≤ a ∧ a ≤ 900) then 1 else sfl l l.length
/-- How many shifts have begun. -/
def beg (u : Int) : List (Int × Int) → Nat
  | [] => 0
  | x :: l => if x.1 ≤ u then beg u l + 1 else 0
/-- How far it is ahead while so many have begun. -/
def zah (a : Int) (l : List (Int × Int)) (k : Nat) : Int := if k = 0 then a else (l.getD (k - 1) (0, 0)).2
/-- Is a number a time? -/
def isT (t : Int) : Bool := decide (1 ≤ t ∧ t ≤ 157785119)
/-- Does it count while so many have begun? -/
def hit (a : Int) (l : List (Int × Int)) (t : Int) (k : Nat) : Bool := isT (t - zah a l k) && (beg (t - zah a l k) l == k)
/-- The times at which it is so there, while fewer than so many have begun. -/
def twc (a : Int) (l : List (Int × Int)) (t : Int) : Nat → List Int
  | 0 => []
  | k + 1 => if hit a l t k then twc a l t k ++ [t - zah a l k] else twc a l t k
def twi (a : Int) (l : List (Int × Int)) (t : Int) : List Int := twc a l t (l.length + 1)

theorem sfl_zero {l : List (Int × Int)} : ∀ {n : Nat}, sfl l n = 0 → ∀ j, j < n → sf l j = 0
  | 0, _, j, hj => absurd hj (Nat.not_lt_zero _)
  | n + 1, h, j, hj => by
    unfold sfl at h
    split at h
    · rename_i h0
      rcases Nat.lt_or_ge j n with g | g
      · exact sfl_zero h0 j g
      · rw [show j = n by omega]; exact h
    · rename_i h0; exact absurd h h0
theorem sfl_one {l : List (Int × Int)} {n : Nat} (h : sfl l n = 0) : sfl l (n + 1) = sf l n := by
  show (if sfl l n = 0 then sf l n else sfl l n) = _
  rw [if_pos h]
theorem sfl_more {l : List (Int × Int)} {n : Nat} (h : ¬ sfl l n = 0) : ∀ m, sfl l (n + m) = sfl l n
  | 0 => rfl
  | m + 1 => by
    show (if sfl l (n + m) = 0 then sf l (n + m) else sfl l (n + m)) = _
    rw [sfl_more h m, if_neg h]
theorem sfl_end {l : List (Int × Int)} {i n : Nat} (hi : i < n) (h : sfl l i = 0) (g : ¬ sf l i = 0) : sfl l n = sf l i := by
  have e := sfl_one h
  have := sfl_more (l := l) (n := i + 1) (by rw [e]; exact g) (n - (i + 1))
  rw [show i + 1 + (n - (i + 1)) = n by omega] at this
  rw [this, e]
theorem sf_one {l : List (Int × Int)} {i : Nat} (h : ¬ (1 ≤ (l.getD i (0, 0)).1 ∧ (l.getD i (0, 0)).1 ≤ 157785119) ∨ ¬ (-900 ≤ (l.getD i (0, 0)).2 ∧ (l.getD i (0, 0)).2 ≤ 900)) : sf l i = 1 := by unfold sf; rw [if_pos h]
theorem sf_seven {l : List (Int × Int)} {i : Nat} (h : (1 ≤ (l.getD i (0, 0)).1 ∧ (l.getD i (0, 0)).1 ≤ 157785119) ∧ (-900 ≤ (l.getD i (0, 0)).2 ∧ (l.getD i (0, 0)).2 ≤ 900)) (g : 0 < i ∧ (l.getD i (0, 0)).1 - (l.getD (i - 1) (0, 0)).1 < 1440) : sf l i = 7 := by
  unfold sf; rw [if_neg (by omega), if_pos g]
theorem sf_none {l : List (Int × Int)} {i : Nat} (h : (1 ≤ (l.getD i (0, 0)).1 ∧ (l.getD i (0, 0)).1 ≤ 157785119) ∧ (-900 ≤ (l.getD i (0, 0)).2 ∧ (l.getD i (0, 0)).2 ≤ 900)) (g : ¬ (0 < i ∧ (l.getD i (0, 0)).1 - (l.getD (i - 1) (0, 0)).1 < 1440)) : sf l i = 0 := by
  unfold sf; rw [if_neg (by omega), if_neg g]
theorem sf_open {l : List (Int × Int)} {i : Nat} (h : sf l i = 0) : (1 ≤ (l.getD i (0, 0)).1 ∧ (l.getD i (0, 0)).1 ≤ 157785119) ∧ (-900 ≤ (l.getD i (0, 0)).2 ∧ (l.getD i (0, 0)).2 ≤ 900) ∧ (0 < i → (l.getD (i - 1) (0, 0)).1 + 1440 ≤ (l.getD i (0, 0)).1) := by
  unfold sf at h
  split at h
  · cases h
  · split at h
    · cases h
    · rename_i a b
      refine ⟨by omega, by omega, fun q => by omega⟩
theorem zf_open {a : Int} {l : List (Int × Int)} (h : zf a l = 0) : l.length ≤ 20 ∧ (-900 ≤ a ∧ a ≤ 900) ∧ ∀ j, j < l.length → sf l j = 0 := by
  unfold zf at h
  split at h
  · cases h
  · split at h
    · cases h
    · rename_i b c
      exact ⟨by omega, by omega, sfl_zero h⟩
theorem zf_vals (a : Int) (l : List (Int × Int)) : zf a l = 0 ∨ zf a l = 1 ∨ zf a l = 4 ∨ zf a l = 7 := by
  have : ∀ n, sfl l n = 0 ∨ sfl l n = 1 ∨ sfl l n = 7 := by
    intro n
    induction n with
    | zero => exact Or.inl rfl
    | succ n ih =>
      unfold sfl
      split
      · unfold sf
        split
        · exact Or.inr (Or.inl rfl)
        · split
          · exact Or.inr (Or.inr rfl)
          · exact Or.inl rfl
      · exact ih
  unfold zf
  split
  · omega
  · split
    · omega
    · rcases this l.length with h | h | h <;> omega
theorem zah_in {a : Int} {l : List (Int × Int)} (h : zf a l = 0) {k : Nat} (hk : k ≤ l.length) : -900 ≤ zah a l k ∧ zah a l k ≤ 900 := by
  obtain ⟨_, h2, h3⟩ := zf_open h
  unfold zah
  split
  · exact h2
  · exact (sf_open (h3 (k - 1) (by omega))).2.1
theorem beg_le (u : Int) : ∀ l, beg u l ≤ l.length
  | [] => Nat.le_refl _
  | x :: l => by
    unfold beg
    split
    · have := beg_le u l; simp; omega
    · omega
theorem beg_all (u : Int) : ∀ l j, j < beg u l → ((l.getD j (0, 0)).1 : Int) ≤ u
  | [], j, h => absurd h (Nat.not_lt_zero _)
  | x :: l, j, h => by
    unfold beg at h
    split at h
    · rename_i hx
      match j, h with
      | 0, _ => exact hx
      | j + 1, h => exact beg_all u l j (by omega)
    · exact absurd h (Nat.not_lt_zero _)
theorem beg_end (u : Int) : ∀ l, beg u l < l.length → u < (l.getD (beg u l) (0, 0)).1
  | [], h => absurd h (Nat.not_lt_zero _)
  | x :: l, h => by
    by_cases hx : x.1 ≤ u
    · have e : beg u (x :: l) = beg u l + 1 := by show (if x.1 ≤ u then beg u l + 1 else 0) = _; rw [if_pos hx]
      rw [e] at h ⊢
      exact beg_end u l (by simpa using h)
    · have e : beg u (x :: l) = 0 := by show (if x.1 ≤ u then beg u l + 1 else 0) = _; rw [if_neg hx]
      rw [e]
      show u < x.1
      omega
theorem beg_of {u : Int} : ∀ {l : List (Int × Int)} {k : Nat}, k ≤ l.length → (∀ j, j < k → ((l.getD j (0, 0)).1 : Int) ≤ u) → (k < l.length → u < (l.getD k (0, 0)).1) → beg u l = k := by
  intro l k hk h1 h2
  have b1 := beg_le u l
  have b2 := beg_all u l
  have b3 := beg_end u l
  rcases Nat.lt_trichotomy (beg u l) k with g | g | g
  · have := h1 _ g; have := b3 (by omega); omega
  · exact g
  · have := b2 _ g; have := h2 (by omega); omega
theorem beg_mono {u v : Int} (h : u ≤ v) (l : List (Int × Int)) : beg u l ≤ beg v l := by
  rcases Nat.lt_or_ge (beg v l) (beg u l) with g | g
  · have h1 := beg_all u l _ g
    have h2 := beg_end v l (by have := beg_le u l; omega)
    omega
  · exact g
/-- What is one of those. -/
theorem twc_mem {a : Int} {l : List (Int × Int)} {t u : Int} : ∀ {n : Nat}, u ∈ twc a l t n ↔ beg u l < n ∧ isT u = true ∧ u = t - zah a l (beg u l)
  | 0 => by simp [twc]
  | n + 1 => by
    have ih := twc_mem (a := a) (l := l) (t := t) (u := u) (n := n)
    unfold twc
    split
    · rename_i hh
      unfold hit at hh
      rw [Bool.and_eq_true] at hh
      obtain ⟨h1, h2⟩ := hh
      have h2' : beg (t - zah a l n) l = n := by simpa using h2
      rw [List.mem_append, ih]
      constructor
      · rintro (⟨g1, g2, g3⟩ | g)
        · exact ⟨by omega, g2, g3⟩
        · obtain rfl : u = t - zah a l n := by simpa using g
          rw [h2']
          exact ⟨by omega, h1, rfl⟩
      · rintro ⟨g1, g2, g3⟩
        rcases Nat.lt_or_ge (beg u l) n with q | q
        · exact Or.inl ⟨q, g2, g3⟩
        · have e : beg u l = n := by omega
          rw [e] at g3
          exact Or.inr (by simp [g3])
    · rename_i hh
      rw [ih]
      constructor
      · rintro ⟨g1, g2, g3⟩; exact ⟨by omega, g2, g3⟩
      · rintro ⟨g1, g2, g3⟩
        rcases Nat.lt_or_ge (beg u l) n with q | q
        · exact ⟨q, g2, g3⟩
        · have e : beg u l = n := by omega
          exfalso
          apply hh
          rw [e] at g3
          unfold hit
          rw [← g3, g2, e]
          simp
theorem twi_mem {a : Int} {l : List (Int × Int)} {t u : Int} : u ∈ twi a l t ↔ isT u = true ∧ u = t - zah a l (beg u l) := by
  unfold twi
  rw [twc_mem]
  have := beg_le u l
  constructor
  · rintro ⟨_, h⟩; exact h
  · intro h; exact ⟨by omega, h⟩
theorem twc_len (a : Int) (l : List (Int × Int)) (t : Int) : ∀ n, (twc a l t n).length ≤ n
  | 0 => Nat.le_refl _
  | n + 1 => by
    have ih := twc_len a l t n
    unfold twc
    split
    · rw [List.length_append]; simp; omega
    · omega
theorem twc_rise (a : Int) (l : List (Int × Int)) (t : Int) : ∀ n, (twc a l t n).Pairwise (· < ·)
  | 0 => List.Pairwise.nil
  | n + 1 => by
    have ih := twc_rise a l t n
    unfold twc
    split
    · rename_i hh
      unfold hit at hh
      rw [Bool.and_eq_true] at hh
      have h2' : beg (t - zah a l n) l = n := by simpa using hh.2
      rw [List.pairwise_append]
      refine ⟨ih, by simp, fun x hx y hy => ?_⟩
      obtain rfl : y = t - zah a l n := by simpa using hy
      have hb := (twc_mem.1 hx).1
      rcases Int.lt_or_le x (t - zah a l n) with g | g
      · exact g
      · have := beg_mono g l
        omega
    · exact ih
theorem twi_rise (a : Int) (l : List (Int × Int)) (t : Int) : (twi a l t).Pairwise (· < ·) := twc_rise a l t _
theorem twi_len (a : Int) (l : List (Int × Int)) (t : Int) : (twi a l t).length ≤ l.length + 1 := twc_len a l t _
/-- Two lists that rise, and have the same in them, are the same. -/
theorem rise_ext : ∀ {x y : List Int}, x.Pairwise (· < ·) → y.Pairwise (· < ·) → (∀ u, u ∈ x ↔ u ∈ y) → x = y
  | [], [], _, _, _ => rfl
  | [], b :: y, _, _, h => absurd ((h b).2 (by simp)) (by simp)
  | a :: x, [], _, _, h => absurd ((h a).1 (by simp)) (by simp)
  | a :: x, b :: y, hx, hy, h => by
    rw [List.pairwise_cons] at hx hy
    have e : a = b := by
      have h1 := (h a).1 (by simp)
      have h2 := (h b).2 (by simp)
      rcases List.mem_cons.1 h1 with q | q
      · exact q
      · rcases List.mem_cons.1 h2 with p | p
        · exact p.symm
        · have := hx.1 _ p; have := hy.1 _ q; omega
    subst e
    have r : x = y := rise_ext hx.2 hy.2 fun u => by
      constructor
      · intro hu
        have := (h u).1 (List.mem_cons_of_mem _ hu)
        rcases List.mem_cons.1 this with q | q
        · have := hx.1 _ hu; omega
        · exact q
      · intro hu
        have := (h u).2 (List.mem_cons_of_mem _ hu)
        rcases List.mem_cons.1 this with q | q
        · have := hy.1 _ hu; omega
        · exact q
    rw [r]
end Zo
end Go.Proofs.YthdohcjingfpoaaGreatDoor
