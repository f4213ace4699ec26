/-
  What is proved here: plain facts on the calendar's numbers (how long years and months are, which day a date is, and that each day has just one date); no program is named.
  What is proved here: small words that all contracts share: on answers, errors, texts, and on what a walk carries from call to call of a date or a weekday in its block.
  What is proved here: what the smallest functions of package day answer (contracts over the translation), without the table of months.
  What is proved here: what each function of package day answers, for every input that it may be called with (contracts over the translation); its table of months is asked as a premise.
  What is proved here: what day.Of answers of any date, and day.Date of any number (contracts over the translation); the table of months is asked as a premise.
-/
import Derived.Test.YteggclolkamhiabGreatDoorProg
import Derived.WalkKit
import Derived.WalkSpells
import Derived.RowKit3
import Derived.Deep.QuietTactic
import Derived.BigQuiet
import Derived.WalkSmall
import Derived.Lib.Hide
namespace Go.Proofs.YteggclolkamhiabGreatDoor.Cal
/-- Is a year leap? -/
def lp (y : Int) : Bool := (y % 4 == 0 && y % 100 != 0) || y % 400 == 0
/-- Days more than 365. -/
def lx (y : Int) : Int := if lp y = true then 1 else 0
/-- Days ahead of a year, from 1900 on. -/
def bef (y : Int) : Int := (y - 1900) * 365 + ((y - 1) / 4 - (y - 1) / 100 + (y - 1) / 400 - 460)
/-- How long a month of a year without a day more is: the table, from place 0 on. -/
def md (i : Int) : Int := if i = 1 then 28 else if i = 3 ∨ i = 5 ∨ i = 8 ∨ i = 10 then 30 else 31
/-- How long a month is. -/
def ml (y m : Int) : Int := if m = 2 then 28 + lx y else md (m - 1)
/-- Days of a year ahead of a month (13: all). -/
def cum (y m : Int) : Int :=
  if m ≤ 1 then 0 else if m = 2 then 31 else
  (if m = 3 then 59 else if m = 4 then 90 else if m = 5 then 120 else if m = 6 then 151 else if m = 7 then 181 else if m = 8 then 212 else if m = 9 then 243 else if m = 10 then 273 else if m = 11 then 304 else if m = 12 then 334 else 365) + lx y
/-- The number of a date. -/
def num (y m d : Int) : Int := bef y + d + cum y m
/-- Is it a date? -/
def okD (y m d : Int) : Prop := 1900 ≤ y ∧ y ≤ 2199 ∧ 1 ≤ m ∧ m ≤ 12 ∧ 1 ≤ d ∧ d ≤ ml y m

theorem lx_01 (y : Int) : 0 ≤ lx y ∧ lx y ≤ 1 := by unfold lx; split <;> omega
theorem lp_iff (y : Int) : lp y = true ↔ ((y % 4 = 0 ∧ ¬ y % 100 = 0) ∨ y % 400 = 0) := by
  unfold lp; simp
theorem tm (y : Int) (k : Int) : y.tmod k = 0 ↔ y % k = 0 := by rw [← Int.dvd_iff_tmod_eq_zero, ← Int.dvd_iff_emod_eq_zero]
theorem lp_t1 {y : Int} (h1 : y.tmod 4 = 0) (h2 : y.tmod 100 = 0) : (y.tmod 400 == 0) = lp y := by
  rw [Bool.eq_iff_iff, lp_iff, beq_iff_eq, tm]; rw [tm] at h1 h2; omega
theorem lp_t2 {y : Int} (h1 : y.tmod 4 = 0) (h2 : ¬ y.tmod 100 = 0) : true = lp y := by
  rw [Bool.eq_iff_iff, lp_iff]; rw [tm] at h1 h2; simp; omega
theorem lp_t3 {y : Int} (h1 : ¬ y.tmod 4 = 0) : (y.tmod 400 == 0) = lp y := by
  rw [Bool.eq_iff_iff, lp_iff, beq_iff_eq, tm]; rw [tm] at h1; omega
theorem lx_pos {y : Int} (h : lp y = true) : lx y = 1 := by unfold lx; rw [if_pos h]
theorem lx_neg {y : Int} (h : lp y = false) : lx y = 0 := by unfold lx; rw [if_neg (by simp [h])]
theorem bef_succ (y : Int) : bef (y + 1) = bef y + 365 + lx y := by
  unfold bef
  rcases h : lp y with _ | _
  · rw [lx_neg h]
    have h' : ¬ ((y % 4 = 0 ∧ ¬ y % 100 = 0) ∨ y % 400 = 0) := fun k => by rw [(lp_iff y).2 k] at h; cases h
    omega
  · rw [lx_pos h]
    have h' := (lp_iff y).1 h
    omega
theorem bef_mono {a b : Int} (h : a ≤ b) : bef a ≤ bef b := by unfold bef; omega
theorem bef_first : bef 1900 = 0 := by decide
theorem bef_last : bef 2200 = 109573 := by decide
theorem bef_bd (y : Int) (h0 : 1900 ≤ y) (h1 : y ≤ 2200) : 0 ≤ bef y ∧ bef y ≤ 109573 := by
  have a := bef_mono h0; have b := bef_mono h1; rw [bef_first] at a; rw [bef_last] at b; exact ⟨a, b⟩
theorem md_bd (i : Int) : 28 ≤ md i ∧ md i ≤ 31 := by unfold md; split; omega; split <;> omega
theorem ml_bd (y m : Int) : 28 ≤ ml y m ∧ ml y m ≤ 31 := by
  have a := lx_01 y; have b := md_bd (m - 1); unfold ml; split <;> omega
theorem mcases {m : Int} (h1 : 1 ≤ m) (h2 : m ≤ 12) : m = 1 ∨ m = 2 ∨ m = 3 ∨ m = 4 ∨ m = 5 ∨ m = 6 ∨ m = 7 ∨ m = 8 ∨ m = 9 ∨ m = 10 ∨ m = 11 ∨ m = 12 := by omega
theorem cum_one (y : Int) : cum y 1 = 0 := by simp [cum]
theorem cum_succ (y m : Int) (h1 : 1 ≤ m) (h2 : m ≤ 12) : cum y (m + 1) = cum y m + ml y m := by
  rcases mcases h1 h2 with rfl | rfl | rfl | rfl | rfl | rfl | rfl | rfl | rfl | rfl | rfl | rfl <;> simp [cum, ml, md] <;> omega
theorem cum_end (y : Int) : cum y 13 = 365 + lx y := by simp [cum]
theorem cum_mono (y : Int) {a b : Int} (h0 : 1 ≤ a) (h : a ≤ b) (h1 : b ≤ 13) : cum y a ≤ cum y b := by
  have key : ∀ k : Nat, a + k ≤ 13 → cum y a ≤ cum y (a + k) := by
    intro k
    induction k with
    | zero => intro _; simp
    | succ k ih =>
      intro hk
      have e : a + ((k + 1 : Nat) : Int) = a + k + 1 := by omega
      have m := ml_bd y (a + k)
      rw [e, cum_succ y (a + k) (by omega) (by omega)]
      have := ih (by omega)
      omega
  have e : a + ((b - a).toNat : Int) = b := by omega
  have := key (b - a).toNat (by omega)
  rwa [e] at this
theorem cum_bd (y m : Int) (h1 : 1 ≤ m) (h2 : m ≤ 13) : 0 ≤ cum y m ∧ cum y m ≤ 366 := by
  have a := cum_mono y (Int.le_refl 1) h1 h2; have b := cum_mono y h1 h2 (Int.le_refl 13); have l := lx_01 y
  rw [cum_one] at a; rw [cum_end] at b; omega

/-- A date's number lies within its year. -/
theorem num_year {y m d : Int} (h : okD y m d) : bef y < num y m d ∧ num y m d ≤ bef (y + 1) := by
  obtain ⟨_, _, h1, h2, h3, h4⟩ := h
  have a := cum_bd y m h1 (by omega)
  have c := cum_succ y m h1 h2
  have e := cum_mono y (a := m + 1) (b := 13) (by omega) (by omega) (by omega)
  rw [cum_end] at e
  rw [bef_succ]
  unfold num
  omega
theorem num_bd {y m d : Int} (h : okD y m d) : 1 ≤ num y m d ∧ num y m d ≤ 109573 := by
  have a := num_year h
  have b := bef_bd y h.1 (by have := h.2.1; omega)
  have c := bef_bd (y + 1) (by have := h.1; omega) (by have := h.2.1; omega)
  omega
/-- Of two dates with one number the year, the month and the day are the same. -/
theorem num_inj {y m d y' m' d' : Int} (h : okD y m d) (h' : okD y' m' d') (e : num y m d = num y' m' d') : y = y' ∧ m = m' ∧ d = d' := by
  have a := num_year h; have a' := num_year h'
  have hy : y = y' := by
    rcases Int.lt_trichotomy y y' with k | k | k
    · have := bef_mono (a := y + 1) (b := y') (by omega); omega
    · exact k
    · have := bef_mono (a := y' + 1) (b := y) (by omega); omega
  subst hy
  obtain ⟨_, _, h1, h2, h3, h4⟩ := h
  obtain ⟨_, _, g1, g2, g3, g4⟩ := h'
  have c := cum_succ y m h1 h2
  have c' := cum_succ y m' g1 g2
  unfold num at e
  have hm : m = m' := by
    rcases Int.lt_trichotomy m m' with k | k | k
    · have := cum_mono y (a := m + 1) (b := m') (by omega) (by omega) (by omega); omega
    · exact k
    · have := cum_mono y (a := m' + 1) (b := m) (by omega) (by omega) (by omega); omega
  subst hm
  exact ⟨rfl, rfl, by omega⟩
/-- The first guess of a year is never too late. -/
theorem guess (n : Int) (h : 1 ≤ n) (h2 : n ≤ 109573) : 1900 ≤ 1900 + (n - 1) / 366 ∧ 1900 + (n - 1) / 366 ≤ 2199 ∧ bef (1900 + (n - 1) / 366) < n := by
  unfold bef; omega
/-- A day's year, sought from a year on. -/
def yrF : Nat → Int → Int → Int
  | 0, _, y => y
  | k + 1, n, y => if bef (y + 1) < n then yrF k n (y + 1) else y
/-- The month of a year's day, sought from a month on. -/
def moF : Nat → Int → Int → Int → Int
  | 0, _, _, m => m
  | k + 1, y, r, m => if cum y (m + 1) < r then moF k y r (m + 1) else m
/-- A day's date: year, month, day. -/
def yr (n : Int) : Int := yrF 300 n 1900
def mo (n : Int) : Int := moF 12 (yr n) (n - bef (yr n)) 1
def da (n : Int) : Int := n - bef (yr n) - cum (yr n) (mo n)
theorem yrF_spec (n : Int) (h2 : n ≤ 109573) : ∀ (k : Nat) (y : Int), 1900 ≤ y → y ≤ 2199 → bef y < n → (2199 - y).toNat ≤ k → 1900 ≤ yrF k n y ∧ yrF k n y ≤ 2199 ∧ bef (yrF k n y) < n ∧ n ≤ bef (yrF k n y + 1) := by
  intro k
  induction k with
  | zero =>
    intro y a b c d
    have : y = 2199 := by omega
    subst this
    exact ⟨a, b, c, by have := bef_last; show n ≤ bef 2200; omega⟩
  | succ k ih =>
    intro y a b c d
    unfold yrF
    split
    · rename_i g
      rcases Int.lt_or_le y 2199 with q | q
      · exact ih (y + 1) (by omega) (by omega) g (by omega)
      · have : y = 2199 := by omega
        subst this
        have e := bef_last
        have : (2199 : Int) + 1 = 2200 := by decide
        rw [this] at g; omega
    · exact ⟨a, b, c, by omega⟩
theorem moF_spec (y r : Int) (h2 : r ≤ 365 + lx y) : ∀ (k : Nat) (m : Int), 1 ≤ m → m ≤ 12 → cum y m < r → (12 - m).toNat ≤ k → 1 ≤ moF k y r m ∧ moF k y r m ≤ 12 ∧ cum y (moF k y r m) < r ∧ r ≤ cum y (moF k y r m + 1) := by
  intro k
  induction k with
  | zero =>
    intro m a b c d
    have : m = 12 := by omega
    subst this
    exact ⟨a, b, c, by have := cum_end y; show r ≤ cum y 13; omega⟩
  | succ k ih =>
    intro m a b c d
    unfold moF
    split
    · rename_i g
      rcases Int.lt_or_le m 12 with q | q
      · exact ih (m + 1) (by omega) (by omega) g (by omega)
      · have : m = 12 := by omega
        subst this
        have e := cum_end y
        have : (12 : Int) + 1 = 13 := by decide
        rw [this] at g; omega
    · exact ⟨a, b, c, by omega⟩
theorem yr_spec {n : Int} (h : 1 ≤ n) (h2 : n ≤ 109573) : 1900 ≤ yr n ∧ yr n ≤ 2199 ∧ bef (yr n) < n ∧ n ≤ bef (yr n + 1) :=
  yrF_spec n h2 300 1900 (by omega) (by omega) (by rw [bef_first]; omega) (by decide)
theorem date_ok {n : Int} (h : 1 ≤ n) (h2 : n ≤ 109573) : okD (yr n) (mo n) (da n) := by
  obtain ⟨a, b, c, d⟩ := yr_spec h h2
  rw [bef_succ] at d
  obtain ⟨e, f, g, k⟩ := moF_spec (yr n) (n - bef (yr n)) (by omega) 12 1 (by omega) (by omega) (by rw [cum_one]; omega) (by decide)
  have k' := cum_succ (yr n) (mo n) e f
  have g' : cum (yr n) (mo n) < n - bef (yr n) := g
  have k2 : n - bef (yr n) ≤ cum (yr n) (mo n + 1) := k
  exact ⟨a, b, e, f, by unfold da; omega, by unfold da; omega⟩
theorem date_num {n : Int} : num (yr n) (mo n) (da n) = n := by unfold num da; omega
theorem date_of {y m d n : Int} (h : okD y m d) (e : num y m d = n) : yr n = y ∧ mo n = m ∧ da n = d := by
  have b := num_bd h
  rw [e] at b
  exact num_inj (date_ok b.1 b.2) h (date_num.trans e.symm)
theorem yr_of {n y : Int} (h : 1 ≤ n) (h2 : n ≤ 109573) (a : bef y < n) (b : n ≤ bef (y + 1)) : yr n = y := by
  have k := num_year (date_ok h h2)
  rw [date_num] at k
  rcases Int.lt_trichotomy (yr n) y with q | q | q
  · have := bef_mono (a := yr n + 1) (b := y) (by omega); omega
  · exact q
  · have := bef_mono (a := y + 1) (b := yr n) (by omega); omega
theorem yr_bd {n : Int} (h : 1 ≤ n) (h2 : n ≤ 109573) : 1900 ≤ yr n ∧ yr n ≤ 2199 ∧ bef (yr n) < n ∧ n ≤ bef (yr n + 1) := by
  have k := num_year (date_ok h h2)
  rw [date_num] at k
  exact ⟨(date_ok h h2).1, (date_ok h h2).2.1, k⟩
theorem date_at {n k : Int} (h : 1 ≤ n) (h2 : n ≤ 109573) (k1 : 1 ≤ k) (k2 : k ≤ 12) (c : cum (yr n) k < n - bef (yr n)) (d : n - bef (yr n) - cum (yr n) k ≤ ml (yr n) k) :
    k = mo n ∧ n - bef (yr n) - cum (yr n) k = da n := by
  obtain ⟨a, b, _⟩ := yr_bd h h2
  have q := date_of (y := yr n) (m := k) (d := n - bef (yr n) - cum (yr n) k) (n := n) ⟨a, b, k1, k2, by omega, d⟩ (by unfold num; omega)
  exact ⟨q.2.1.symm, q.2.2.symm⟩
/-- The next day: of the same month, or the first of the next one. -/
theorem next_in {n : Int} (h : 1 ≤ n) (h2 : n + 1 ≤ 109573) (c : da n < ml (yr n) (mo n)) : yr (n + 1) = yr n ∧ mo (n + 1) = mo n ∧ da (n + 1) = da n + 1 := by
  obtain ⟨a1, a2, a3, a4, a5, a6⟩ := date_ok h (by omega)
  have e := date_num (n := n)
  exact date_of ⟨a1, a2, a3, a4, by omega, by omega⟩ (by unfold num at *; omega)
theorem next_month {n : Int} (h : 1 ≤ n) (h2 : n + 1 ≤ 109573) (c : ¬ da n < ml (yr n) (mo n)) (g : mo n < 12) : yr (n + 1) = yr n ∧ mo (n + 1) = mo n + 1 ∧ da (n + 1) = 1 := by
  obtain ⟨a1, a2, a3, a4, a5, a6⟩ := date_ok h (by omega)
  have e := date_num (n := n)
  have s := cum_succ (yr n) (mo n) a3 a4
  have l := ml_bd (yr n) (mo n + 1)
  exact date_of ⟨a1, a2, by omega, by omega, by omega, by omega⟩ (by unfold num at *; omega)
theorem next_year {n : Int} (h : 1 ≤ n) (h2 : n + 1 ≤ 109573) (c : ¬ da n < ml (yr n) (mo n)) (g : ¬ mo n < 12) : yr (n + 1) = yr n + 1 ∧ mo (n + 1) = 1 ∧ da (n + 1) = 1 := by
  obtain ⟨a1, a2, a3, a4, a5, a6⟩ := date_ok h (by omega)
  have e := date_num (n := n)
  have hm : mo n = 12 := by omega
  rw [hm] at e c a6
  have s : cum (yr n) 13 = cum (yr n) 12 + ml (yr n) 12 := cum_succ (yr n) 12 (by omega) (by omega)
  have t := cum_end (yr n)
  have b := bef_succ (yr n)
  have l := ml_bd (yr n + 1) 1
  have hn : n = bef (yr n + 1) := by unfold num at e; omega
  have hy : yr n < 2199 := by
    rcases Int.lt_or_le (yr n) 2199 with q | q
    · exact q
    · have q2 : yr n + 1 = 2200 := by omega
      rw [q2, bef_last] at hn; omega
  exact date_of ⟨by omega, by omega, by omega, by omega, by omega, by omega⟩ (by unfold num; rw [cum_one]; omega)
end Go.Proofs.YteggclolkamhiabGreatDoor.Cal
namespace Go.Proofs.YteggclolkamhiabGreatDoor
open Go.RowKit Cal

theorem ret_bool {a b : Bool} (h : a = b) : Ending.returned (.bool a) = .returned (.bool b) := by rw [h]
theorem ret_int {k : IntKind} {a b : Int} (h : a = b) : Ending.returned (.int k a) = .returned (.int k b) := by rw [h]
/-- What is told of a number that is none. -/
abbrev errRange : Value := .iface 44 (.int .i64 1)
/-- The error of a fault. -/
def fault (k : Int) : Value := if k = 0 then .nilIface else .iface 44 (.int .i64 k)
/-- The date that is none. -/
abbrev noDate : Value := .agg #[.int .i64 0, .int .i64 0, .int .i64 0]
theorem bcell {W w1 : World} (hb : Below W.heap.size W w1) : (∀ b o, b < W.heap.size → w1.cell? ⟨b, o, none⟩ = W.cell? ⟨b, o, none⟩) ∧ (∀ b o, b < W.heap.size → w1.frozen? ⟨b, o, none⟩ = W.frozen? ⟨b, o, none⟩) :=
  ⟨fun b o h => hb.cell (p := ⟨b, o, none⟩) h, fun b o h => hb.frozen (p := ⟨b, o, none⟩) h⟩
/-- A date lies in a block. -/
def Dat (W : World) (b : Nat) (y m d : Int) : Prop := W.cell? ⟨b, 0, none⟩ = some (.int .i64 y) ∧ W.cell? ⟨b, 1, none⟩ = some (.int .i64 m) ∧ W.cell? ⟨b, 2, none⟩ = some (.int .i64 d)
theorem Dat.lt {W : World} {b : Nat} {y m d : Int} (h : Dat W b y m d) : b < W.heap.size := by
  have k := h.1
  rcases Nat.lt_or_ge b W.heap.size with q | q
  · exact q
  · simp [World.cell?, Array.getElem?_eq_none q] at k
theorem Dat.on {W W' : World} {b : Nat} {y m d : Int} (h : Dat W b y m d) (k : Below W.heap.size W W') : Dat W' b y m d :=
  ⟨(k.cell (p := ⟨b, 0, none⟩) h.lt).trans h.1, (k.cell (p := ⟨b, 1, none⟩) h.lt).trans h.2.1, (k.cell (p := ⟨b, 2, none⟩) h.lt).trans h.2.2⟩
theorem Dat.alloc {W : World} {b : Nat} {y m d : Int} (h : Dat W b y m d) (o : Obj) : Dat (W.alloc o) b y m d := h.on ((Below.refl _ _).alloc (Nat.le_refl _) _)
theorem Dat.new (W : World) (y m d : Int) (t : TypeId) : Dat (W.alloc (.cells #[.int .i64 y, .int .i64 m, .int .i64 d] t)) W.heap.size y m d := ⟨by simp, by simp, by simp⟩

theorem below_same {P : Program} {f : FuncId} {args : Array Value} {w : World} {v : Value} (h : Calls P f args w fun e w' => e = .returned v ∧ w' = w) : Calls P f args w fun e w' => e = .returned v ∧ Below w.heap.size w w' :=
  h.mono fun _ _ ⟨he, hw⟩ => ⟨he, by rw [hw]; exact Below.refl _ _⟩
/-- A weekday with its number lies in a block. -/
def Two (W : World) (b : Nat) (N k : Int) : Prop := W.cell? ⟨b, 0, none⟩ = some (.int .i64 N) ∧ W.cell? ⟨b, 1, none⟩ = some (.int .i64 k)
theorem Two.lt {W : World} {b : Nat} {N k : Int} (h : Two W b N k) : b < W.heap.size := by
  have k := h.1
  rcases Nat.lt_or_ge b W.heap.size with q | q
  · exact q
  · simp [World.cell?, Array.getElem?_eq_none q] at k
theorem Two.on {W W' : World} {b : Nat} {N k : Int} (h : Two W b N k) (q : Below W.heap.size W W') : Two W' b N k :=
  ⟨(q.cell (p := ⟨b, 0, none⟩) h.lt).trans h.1, (q.cell (p := ⟨b, 1, none⟩) h.lt).trans h.2⟩
theorem Two.new (W : World) (N k : Int) (t : TypeId) : Two (W.alloc (.cells #[.int .i64 N, .int .i64 k] t)) W.heap.size N k := ⟨by simp, by simp⟩

theorem Two.alloc {W : World} {b : Nat} {N k : Int} (h : Two W b N k) (o : Obj) : Two (W.alloc o) b N k := h.on ((Below.refl _ _).alloc (Nat.le_refl _) _)
/-! Texts. -/
theorem ba_app (a b : List UInt8) : (⟨a.toArray⟩ : ByteArray) ++ ⟨b.toArray⟩ = ⟨(a ++ b).toArray⟩ := by
  apply ByteArray.ext; simp
theorem ret_ba {a b : ByteArray} (h : a = b) : Ending.returned (.string a) = .returned (.string b) := by rw [h]
theorem ret_str {a b : List UInt8} (h : a = b) : Ending.returned (.string ⟨a.toArray⟩) = .returned (.string ⟨b.toArray⟩) := by rw [h]
theorem take_snoc (s : ByteArray) (k : Nat) (h : k < s.size) : s.data.toList.take (k + 1) = s.data.toList.take k ++ [s[k]] := by
  rw [List.take_succ_eq_append_getElem (by simpa using h)]; rfl
theorem mem_at (s : ByteArray) (k : Nat) (h : k < s.size) : s[k] ∈ s.data.toList := by
  have : s[k] = s.data.toList[k]'(by simpa using h) := rfl
  rw [this]; exact List.getElem_mem _
theorem size_len (s : ByteArray) : s.data.toList.length = s.size := rfl
theorem byte_eq {a c : UInt8} {ci : Int} (hc : (c.toNat : Int) = ci) : a = c ↔ (a.toNat : Int) = ci := by
  constructor
  · intro h; rw [h]; exact hc
  · intro h; apply UInt8.toNat_inj.1; omega
theorem ret_two {a b c d : Int} (h : a = c) (g : b = d) : Ending.returned (.tuple #[.int .i64 a, .int .i64 b]) = .returned (.tuple #[.int .i64 c, .int .i64 d]) := by rw [h, g]
end Go.Proofs.YteggclolkamhiabGreatDoor
namespace Go.Proofs.YteggclolkamhiabGreatDoor
open Go.RowKit Cal


theorem leapsTo_any (y : Int) (w : World) (h0 : 0 ≤ y) (h1 : y ≤ 100000) :
    Calls Tryz.prog 86 #[.int .i64 y] w fun e w' => e = .returned (.int .i64 (y / 4 - y / 100 + y / 400)) ∧ w' = w := by
  go_enter Tryz.func86, Tryz.ntmps86
  go_wp2
  go_ret
  exact ⟨rfl, rfl⟩
theorem bef_raw (y : Int) : (y - 1900) * 365 + ((y - 1) / 4 - (y - 1) / 100 + (y - 1) / 400 - (1899 / 4 - 1899 / 100 + 1899 / 400)) = bef y := by unfold bef; omega
theorem beforeYear_any (y : Int) (w : World) (h0 : 1 ≤ y) (h1 : y ≤ 10000) :
    Calls Tryz.prog 67 #[.int .i64 y] w fun e w' => e = .returned (.int .i64 (bef y)) ∧ w' = w := by
  go_enter Tryz.func67, Tryz.ntmps67
  go_wp2_with (go_at_call 86; refine (leapsTo_any _ _ (by omega) (by omega)).mono ?_; rintro e w' ⟨rfl, rfl⟩)
  go_ret
  exact ⟨ret_int (bef_raw y), rfl⟩
theorem last_any (w : World) :
    Calls Tryz.prog 37 #[] w fun e w' => e = .returned (.int .i64 109573) ∧ w' = w := by
  go_enter Tryz.func37, Tryz.ntmps37
  go_wp2_with (go_at_call 67; refine (beforeYear_any _ _ (by omega) (by omega)).mono ?_; rintro e w' ⟨rfl, rfl⟩)
  go_ret
  exact ⟨ret_int bef_last, rfl⟩
end Go.Proofs.YteggclolkamhiabGreatDoor
namespace Go.Proofs.YteggclolkamhiabGreatDoor
open Go.RowKit Cal

/-- The table of months, as it is laid. -/
def Tab (w : World) : Prop := ∀ i : Nat, i < 12 → w.cell? ⟨4, i, none⟩ = some (.int .i64 (md i))

theorem leap_any (y : Int) (w : World) :
    Calls Tryz.prog 104 #[.int .i64 y] w fun e w' => e = .returned (.bool (lp y)) ∧ w' = w := by
  go_enter Tryz.func104, Tryz.ntmps104
  go_wp2
  · go_ret; exact ⟨ret_bool (lp_t1 ‹_› ‹_›), rfl⟩
  · go_ret; exact ⟨ret_bool (lp_t2 ‹_› ‹_›), rfl⟩
  · go_ret; exact ⟨ret_bool (lp_t3 ‹_›), rfl⟩
/-- Is a number a day? -/
def isd (n : Int) : Bool := decide (1 ≤ n ∧ n ≤ 109573)
theorem isDay_any (n : Int) (w : World) :
    Calls Tryz.prog 88 #[.int .i64 n] w fun e w' => e = .returned (.bool (isd n)) ∧ w' = w := by
  by_cases h : 1 ≤ n
  all_goals
    go_enter Tryz.func88, Tryz.ntmps88
    go_wp2_with (go_at_call 37; refine (last_any _).mono ?_; rintro e w' ⟨rfl, rfl⟩)
    go_ret
    exact ⟨ret_bool (by unfold isd; rw [Bool.eq_iff_iff]; simp; omega), rfl⟩
theorem isd_yes {n : Int} (h1 : 1 ≤ n) (h2 : n ≤ 109573) : isd n = true := by unfold isd; simp; omega
theorem isd_no {n : Int} (h : ¬ (1 ≤ n ∧ n ≤ 109573)) : isd n = false := by unfold isd; exact decide_eq_false h
theorem ml_two {y : Int} (h : lp y = true) : (28 : Int) + 1 = ml y 2 := by simp [ml, lx_pos h]
theorem ml_two' {y : Int} (h : lp y = false) : md (2 - 1) = ml y 2 := by simp [ml, lx_neg h, md]
theorem ml_other {y m : Int} (h : ¬ m = 2) : md (m - 1) = ml y m := by simp [ml, h]
theorem monthLength_any (y m : Int) (w : World) (hT : Tab w) (h1 : 1 ≤ m) (h2 : m ≤ 12) :
    Calls Tryz.prog 90 #[.int .i64 y, .int .i64 m] w fun e w' => e = .returned (.int .i64 (ml y m)) ∧ w' = w := by
  have hc : w.cell? ⟨4, m.toNat - 1, none⟩ = some (.int .i64 (md (m - 1))) := by
    have k := hT (m.toNat - 1) (by omega)
    rwa [show ((m.toNat - 1 : Nat) : Int) = m - 1 by omega] at k
  have hc1 : w.cell? ⟨4, 1, none⟩ = some (.int .i64 28) := hT 1 (by decide)
  clear hT
  by_cases hm2 : m = 2
  · subst hm2
    rcases hl : lp y with _ | _
    · go_enter Tryz.func90, Tryz.ntmps90
      go_wp2_with (go_at_call 104; refine (leap_any _ _).mono ?_; rintro e w' ⟨rfl, rfl⟩)
      go_ret
      exact ⟨ret_int (ml_two' hl), rfl⟩
    · go_enter Tryz.func90, Tryz.ntmps90
      go_wp2_with (go_at_call 104; refine (leap_any _ _).mono ?_; rintro e w' ⟨rfl, rfl⟩)
      go_ret
      exact ⟨ret_int (ml_two hl), rfl⟩
  · go_enter Tryz.func90, Tryz.ntmps90
    go_wp2
    go_ret
    exact ⟨ret_int (ml_other hm2), rfl⟩

theorem Tab.pos {w : World} (h : Tab w) : 4 < w.heap.size := by
  have k := h 0 (by decide)
  rcases Nat.lt_or_ge 4 w.heap.size with q | q
  · exact q
  · simp [World.cell?, Array.getElem?_eq_none q] at k
theorem Tab.below {w w' : World} (h : Tab w) (b : Below w.heap.size w w') : Tab w' := fun i hi => (b.cell (p := ⟨4, i, none⟩) h.pos).trans (h i hi)
theorem Tab.alloc {w : World} (h : Tab w) (o : Obj) : Tab (w.alloc o) := h.below ((Below.refl _ _).alloc (Nat.le_refl _) _)
theorem Tab.drew {w : World} (h : Tab w) : Tab w.drew := h
theorem Tab.drewN {w : World} (h : Tab w) (n : Nat) : Tab (w.drewN n) := h.below (below_drewN (Below.refl _ _) n)

theorem days_yes (y m : Int) (w : World) (hT : Tab w) (a1 : 1900 ≤ y) (a2 : y ≤ 2199) (h1 : 1 ≤ m) (h2 : m ≤ 12) :
    Calls Tryz.prog 142 #[.int .i64 y, .int .i64 m] w fun e w' => e = .returned (.tuple #[.int .i64 (ml y m), .nilIface]) ∧ w' = w := by
  go_enter Tryz.func142, Tryz.ntmps142
  go_wp2_with (go_at_call 90; refine (monthLength_any _ _ _ hT h1 h2).mono ?_; rintro e w' ⟨rfl, rfl⟩)
  go_ret2
  exact ⟨rfl, rfl⟩
theorem days_no (y m : Int) (w : World) (h : ¬ (1900 ≤ y ∧ y ≤ 2199 ∧ 1 ≤ m ∧ m ≤ 12)) :
    Calls Tryz.prog 142 #[.int .i64 y, .int .i64 m] w fun e w' => e = .returned (.tuple #[.int .i64 0, errRange]) ∧ w' = w := by
  have hc : y < 1900 ∨ (1900 ≤ y ∧ 2199 < y) ∨ (1900 ≤ y ∧ y ≤ 2199 ∧ m < 1) ∨ (1900 ≤ y ∧ y ≤ 2199 ∧ 1 ≤ m ∧ 12 < m) := by omega
  clear h
  rcases hc with h | ⟨h, g⟩ | ⟨h, g, k⟩ | ⟨h, g, k, l⟩
  all_goals
    go_enter Tryz.func142, Tryz.ntmps142
    go_wp2
    go_ret2
    exact ⟨rfl, rfl⟩
theorem yearOf_any (n : Int) (w : World) (h1 : 1 ≤ n) (h2 : n ≤ 109573) :
    Calls Tryz.prog 89 #[.int .i64 n] w fun e w' => e = .returned (.int .i64 (yr n)) ∧ w' = w := by
  obtain ⟨g1, g2, g3⟩ := guess n h1 h2
  have G := g3
  go_enter Tryz.func89, Tryz.ntmps89
  go_wp2
  go_loop [3] (fun t => ∃ y : Int, 1900 ≤ y ∧ y ≤ 2199 ∧ bef y < n ∧ t = .int .i64 y) (fun t => (2200 - intOf t).toNat)
  case atStart => exact ⟨_, g1, g2, g3, rfl⟩
  case round =>
    clear g1 g2 g3 G
    obtain ⟨y, a, b, c, rfl⟩ := hrel
    by_cases hlt : bef (y + 1) < n
    · have hy : y < 2199 := by
        rcases Int.lt_or_le y 2199 with q | q
        · exact q
        · have : y = 2199 := by omega
          subst this
          have e : bef (2199 + 1) = 109573 := bef_last
          omega
      go_wp2_with (go_at_call 67; refine (beforeYear_any _ _ (by omega) (by omega)).mono ?_; rintro e w' ⟨rfl, rfl⟩)
      go_round
      case rel => exact ⟨y + 1, by omega, by omega, hlt, rfl⟩
      case measure => simp [intOf]; omega
    · go_wp2_with (go_at_call 67; refine (beforeYear_any _ _ (by omega) (by omega)).mono ?_; rintro e w' ⟨rfl, rfl⟩)
      go_ret
      exact ⟨ret_int (yr_of h1 h2 c (by omega)).symm, rfl⟩
end Go.Proofs.YteggclolkamhiabGreatDoor
namespace Go.Proofs.YteggclolkamhiabGreatDoor
open Go.RowKit Cal

theorem of_no (y m d : Int) (w : World) (hT : Tab w) (h : ¬ okD y m d) :
    Calls Tryz.prog 134 #[.agg #[.int .i64 y, .int .i64 m, .int .i64 d]] w fun e w' => e = .returned (.tuple #[.int .i64 0, errRange]) ∧ Below w.heap.size w w' := by
  by_cases hb : 1900 ≤ y ∧ y ≤ 2199 ∧ 1 ≤ m ∧ m ≤ 12
  · obtain ⟨a, b, c, g⟩ := hb
    have hd : d < 1 ∨ (1 ≤ d ∧ ml y m < d) := by unfold okD at h; omega
    clear h
    rcases hd with k | ⟨k, l⟩
    all_goals
      go_enter Tryz.func134, Tryz.ntmps134
      go_wp2_with (go_at_call 142; refine (days_yes _ _ _ (by exact hT.alloc _) a b c g).mono ?_; rintro e w' ⟨rfl, rfl⟩)
      go_ret2
      exact ⟨rfl, (Below.refl _ _).alloc (Nat.le_refl _) _⟩
  · clear h
    go_enter Tryz.func134, Tryz.ntmps134
    go_wp2_with (go_at_call 142; refine (days_no _ _ _ hb).mono ?_; rintro e w' ⟨rfl, rfl⟩)
    go_ret2
    exact ⟨rfl, (Below.refl _ _).alloc (Nat.le_refl _) _⟩
set_option maxHeartbeats 1000000 in
theorem of_yes (y m d : Int) (w : World) (hT : Tab w) (h : okD y m d) :
    Calls Tryz.prog 134 #[.agg #[.int .i64 y, .int .i64 m, .int .i64 d]] w fun e w' => e = .returned (.tuple #[.int .i64 (num y m d), .nilIface]) ∧ Below w.heap.size w w' := by
  have hb := bef_bd y h.1 (by have := h.2.1; omega)
  have hml := ml_bd y m
  obtain ⟨a, b, c, g, k, l⟩ := h
  go_enter Tryz.func134, Tryz.ntmps134
  go_wp2_with (go_at_call 142; refine (days_yes _ _ _ (by exact hT.alloc _) a b c g).mono ?_; rintro e w' ⟨rfl, rfl⟩)
  go_quiet ((go_at_call 67; exact Calls.quiet_of_same (beforeYear_any _ _ (by omega) (by omega))))
  go_wp2
  have hT2 : Tab ((w.alloc (.cells #[.int .i64 y, .int .i64 m, .int .i64 d] 50)).drewN nq) := (hT.alloc _).drewN nq
  go_loop [6, 7] (fun s i => ∃ k : Int, 1 ≤ k ∧ k ≤ m ∧ i = .int .i64 k ∧ s = .int .i64 (bef y + d + cum y k)) (fun _ i => (13 - intOf i).toNat)
  case atStart => exact ⟨1, by omega, by omega, rfl, by rw [cum_one]; simp⟩
  case round =>
    obtain ⟨k, k1, k2, rfl, rfl⟩ := hrel
    have cb := cum_bd y k k1 (by omega)
    have mb := ml_bd y k
    have CS : Hid (cum y (k + 1) = cum y k + ml y k) := cum_succ y k k1 (by omega)
    by_cases hlt : k < m
    · go_wp2_with (go_at_call 90; refine (monthLength_any _ _ _ hT2 (by omega) (by omega)).mono ?_; rintro e w' ⟨rfl, rfl⟩)
      go_round
      case rel => exact ⟨k + 1, by omega, by omega, rfl, by rw [CS.out]; go_num⟩
      case measure => simp [intOf]; omega
    · have hk : k = m := by omega
      subst hk
      go_wp2
      go_ret2
      exact ⟨rfl, below_drewN ((Below.refl _ _).alloc (Nat.le_refl _) _) _⟩

theorem date_no (n : Int) (w : World) (h : ¬ (1 ≤ n ∧ n ≤ 109573)) :
    Calls Tryz.prog 70 #[.int .i64 n] w fun e w' => e = .returned (.tuple #[noDate, errRange]) ∧ Below w.heap.size w w' := by
  have hi := isd_no h
  clear h
  go_enter Tryz.func70, Tryz.ntmps70
  go_wp2_with (go_at_call 88; refine (isDay_any _ _).mono ?_; rintro e w' ⟨rfl, rfl⟩)
  exact bodyPost_ret (v := .tuple #[noDate, errRange]) (by simp [results, Tryz.results70, go_sem]) rfl ⟨rfl, by repeat (first | exact Below.refl _ _ | refine Below.setCell ?_ (Nat.le_refl _) _ | refine Below.alloc ?_ (Nat.le_refl _) _)⟩
set_option maxHeartbeats 1000000 in
theorem date_yes (n : Int) (w : World) (hT : Tab w) (h1 : 1 ≤ n) (h2 : n ≤ 109573) :
    Calls Tryz.prog 70 #[.int .i64 n] w fun e w' => e = .returned (.tuple #[.agg #[.int .i64 (yr n), .int .i64 (mo n), .int .i64 (da n)], .nilIface]) ∧ Below w.heap.size w w' := by
  have hi := isd_yes h1 h2
  obtain ⟨y1, y2, y3, y4⟩ := yr_bd h1 h2
  have yb := bef_bd (yr n) y1 (by omega)
  have ys := bef_succ (yr n)
  have yl := lx_01 (yr n)
  have hr : n - bef (yr n) ≤ 365 + lx (yr n) := by omega
  clear ys y4
  go_enter Tryz.func70, Tryz.ntmps70
  go_wp2_with (first
    | (go_at_call 88; refine (isDay_any _ _).mono ?_; rintro e w' ⟨rfl, rfl⟩)
    | (go_at_call 89; refine (yearOf_any _ _ h1 h2).mono ?_; rintro e w' ⟨rfl, rfl⟩)
    | (go_at_call 67; refine (beforeYear_any _ _ (by omega) (by omega)).mono ?_; rintro e w' ⟨rfl, rfl⟩))
  have hT2 : Tab (w.alloc (.cells #[.int .i64 0, .int .i64 0, .int .i64 0] 50)) := hT.alloc _
  go_loop [5, 6] (fun t s => ∃ k : Int, 1 ≤ k ∧ k ≤ 12 ∧ t = .int .i64 k ∧ cum (yr n) k < n - bef (yr n) ∧ s = .int .i64 (n - bef (yr n) - cum (yr n) k)) (fun t _ => (13 - intOf t).toNat)
  case atStart => exact ⟨1, by omega, by omega, rfl, by rw [cum_one]; omega, by rw [cum_one]; simp⟩
  case round =>
    clear hi
    obtain ⟨k, k1, k2, rfl, k3, rfl⟩ := hrel
    have cb := cum_bd (yr n) k k1 (by omega)
    have mb := ml_bd (yr n) k
    have CS : Hid (cum (yr n) (k + 1) = cum (yr n) k + ml (yr n) k) := cum_succ (yr n) k k1 k2
    by_cases hlt : ml (yr n) k < n - bef (yr n) - cum (yr n) k
    · have hk : k < 12 := by
        rcases Int.lt_or_le k 12 with q | q
        · exact q
        · have : k = 12 := by omega
          subst this
          have e1 := CS.out
          have e2 : cum (yr n) (12 + 1) = 365 + lx (yr n) := cum_end (yr n)
          omega
      go_wp2_with (go_at_call 90; refine (monthLength_any _ _ _ hT2 (by omega) (by omega)).mono ?_; rintro e w' ⟨rfl, rfl⟩)
      go_round
      case rel => exact ⟨k + 1, by omega, by omega, rfl, by rw [CS.out]; omega, by rw [CS.out]; go_num⟩
      case measure => simp [intOf]; omega
    · have D : Hid (k = mo n ∧ n - bef (yr n) - cum (yr n) k = da n) := date_at h1 h2 k1 k2 k3 (by omega)
      go_wp2_with (go_at_call 90; refine (monthLength_any _ _ _ hT2 (by omega) (by omega)).mono ?_; rintro e w' ⟨rfl, rfl⟩)
      refine bodyPost_ret (v := .tuple #[.agg #[.int .i64 (yr n), .int .i64 k, .int .i64 (n - bef (yr n) - cum (yr n) k)], .nilIface]) (by simp [results, Tryz.results70, go_sem]) rfl ⟨by rw [D.out.2, D.out.1], ?_⟩
      repeat (first | exact Below.refl _ _ | refine Below.setCell ?_ (Nat.le_refl _) _ | refine Below.alloc ?_ (Nat.le_refl _) _)
end Go.Proofs.YteggclolkamhiabGreatDoor
