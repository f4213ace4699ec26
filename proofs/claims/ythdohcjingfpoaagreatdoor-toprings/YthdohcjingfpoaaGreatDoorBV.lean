/-
  What is proved here: what event.ofStart answers of an event that does not repeat, and what event.Local answers of any, out of what ofStart answers (contracts over the translation).
  What is proved here: plain facts on the times of an event: in two parts they are what they are in all; those of a first event; what event.Local answers of any event (a contract over the translation).
-/
import Derived.Test.YthdohcjingfpoaaGreatDoorBW
import Derived.Test.YthdohcjingfpoaaGreatDoorBO
import Derived.Test.YthdohcjingfpoaaGreatDoorDE
namespace Go.Proofs.YthdohcjingfpoaaGreatDoor
open Go.RowKit Cal Txt

theorem of_new (w : World) (n0 : Nat) (st : Int) (hn : n0 ≤ w.heap.size) : (w.alloc (.cells #[.int .i64 st] 3)).ownsRow n0 3 1 (.slice (some ⟨w.heap.size, 0, none⟩) 1 1) 1 (nums [st]) := by
  exact ⟨rfl, Or.inr ⟨w.heap.size, 1, #[.int .i64 st], rfl, hn, heap_alloc_new w _, Nat.le_refl _, by unfold maxLen; decide, rfl, rfl⟩⟩
set_option maxHeartbeats 1000000 in
theorem ofStart_once (e : Evt) (s : Evs) (fr t : Int) (w : World) (hr : e.rep = false) :
    Calls Tryz.prog 227 #[.agg (ecells e s), .int .i64 fr, .int .i64 t] w (OfA w.heap.size w [e.start]) := by
  obtain ⟨nm, tx, st, ln, rp, ru, mo, no, ch, al⟩ := e
  obtain ⟨vm, vd, vw, vp, vo, vn, vc, va⟩ := s
  dsimp only at hr
  subst hr
  have HB := Lib.hid ((Below.refl w.heap.size w).alloc (Nat.le_refl _) (.cells #[.string nm, .string tx, .int .i64 st, .int .i64 ln, .bool false, .int .i64 ru.freq, .int .i64 ru.every, .int .i64 ru.count, .int .i64 ru.till, vm, vd, vw, vp, vo, vn, vc, va] 40))
  dsimp only [ecells]
  go_enter Tryz.func227, Tryz.ntmps227
  go_wp2
  go_ret2
  refine ⟨.slice (some ⟨w.heap.size + 1, 0, none⟩) 1 1, rfl, ?_, HB.out.alloc HB.out.size _⟩
  have k := of_new (w.alloc (.cells #[.string nm, .string tx, .int .i64 st, .int .i64 ln, .bool false, .int .i64 ru.freq, .int .i64 ru.every, .int .i64 ru.count, .int .i64 ru.till, vm, vd, vw, vp, vo, vn, vc, va] 40)) w.heap.size st HB.out.size
  rw [World.size_alloc] at k
  exact k
/-- Are two numbers the ends of a stretch? -/
def strB (fr t : Int) : Bool := ((ist fr && ist t) && decide (fr ≤ t)) && decide (t - fr ≤ 1000000)
/-- What is wrong with an event and a stretch, or with how many times there are. -/
def lcF (l : List Int) (e : Evt) (fr t : Int) : Int := if ¬ evF e = 0 then evF e else if strB fr t = false then 1 else if 200 < (evL l e fr t).length then 4 else 0
/-- The times that are told. -/
def lcL (l : List Int) (e : Evt) (fr t : Int) : List Int := if lcF l e fr t = 0 then evL l e fr t else []
/-- What is told. -/
def TolA (w : World) (l : List Int) (f : Int) (x : Ending) (w' : World) : Prop := ∃ v, x = .returned (.tuple #[v, fault f]) ∧ Wr w.heap.size w' v l ∧ Below w.heap.size w w'
theorem Wr.nil (n0 : Nat) (w : World) : Wr n0 w (.slice none 0 0) [] := World.ownsRow_nil _ _ _ _
theorem evF_lens {e : Evt} (h : evF e = 0) : (risB e.nots = true ∧ e.nots.length ≤ 100 ∧ e.more.length ≤ 100) ∧ ruF e = 0 ∧ ist e.start = true ∧ (e.more.all ist = true ∧ e.nots.all ist = true ∧ risB e.more = true) ∧ e.chg.length ≤ 100 ∧ 0 ≤ e.len ∧ e.len ≤ 100000 := by
  unfold evF at h
  split at h
  · cases h
  split at h
  · cases h
  split at h
  · rename_i q; exact absurd h q
  split at h
  · rename_i q; exact absurd h q
  rename_i q1 q2 q3
  have h3 : ruF e = 0 := Decidable.byContradiction q2
  have h4 : liF e = 0 := Decidable.byContradiction q3
  have h5 : (ist e.start && decide (0 ≤ e.len ∧ e.len ≤ 100000)) = true := by simpa using q1
  unfold liF at h4
  split at h4
  · cases h4
  split at h4
  · cases h4
  split at h4
  · cases h4
  rename_i z1 z2 z3
  have y1 := of_decide_eq_false (by simpa [full] using z1 : full e = false)
  have y2 : (e.more.all ist && e.nots.all ist && e.chg.all chB) = true := by revert z2; cases (e.more.all ist && e.nots.all ist && e.chg.all chB) <;> simp
  have y3 : (risB e.more && risB e.nots && criB e.chg) = true := by revert z3; cases (risB e.more && risB e.nots && criB e.chg) <;> simp
  rw [Bool.and_eq_true, Bool.and_eq_true] at y2 y3
  rw [Bool.and_eq_true] at h5
  have h6 := of_decide_eq_true h5.2
  exact ⟨⟨y3.1.2, by omega, by omega⟩, h3, h5.1, ⟨y2.1.1, y2.1.2, y3.1.1⟩, by omega, h6.1, h6.2⟩
theorem lcF_ev {l : List Int} {e : Evt} {fr t : Int} (h : ¬ evF e = 0) : lcF l e fr t = evF e := if_pos h
theorem lcF_str {l : List Int} {e : Evt} {fr t : Int} (h : evF e = 0) (k : strB fr t = false) : lcF l e fr t = 1 := by unfold lcF; rw [if_neg (fun q => q h), if_pos k]
theorem lcF_len {l : List Int} {e : Evt} {fr t : Int} (h : evF e = 0) (k : strB fr t = true) : lcF l e fr t = if 200 < (evL l e fr t).length then 4 else 0 := by unfold lcF; rw [if_neg (fun q => q h), if_neg (by rw [k]; decide)]
theorem lcL_no {l : List Int} {e : Evt} {fr t : Int} (h : ¬ lcF l e fr t = 0) : lcL l e fr t = [] := if_neg h
theorem lcL_yes {l : List Int} {e : Evt} {fr t : Int} (h : lcF l e fr t = 0) : lcL l e fr t = evL l e fr t := if_pos h
theorem strB_ends {fr t : Int} (h : strB fr t = true) : (1 ≤ fr ∧ t ≤ 157785119) ∧ fr ≤ t ∧ t - fr ≤ 1000000 := by
  unfold strB ist at h
  simp at h
  omega
end Go.Proofs.YthdohcjingfpoaaGreatDoor
namespace Go.Proofs.YthdohcjingfpoaaGreatDoor
open Go.RowKit Cal Txt

/-- The times of Start, for a stretch. -/
def stL (e : Evt) (fr t : Int) : List Int := if e.rep = true then (dyL e fr t).map (tmd e.start) else [e.start]
theorem stL_len {e : Evt} {fr t : Int} (h : evF e = 0) : (stL e fr t).length ≤ 200000 := by
  unfold stL
  split
  · rename_i hr
    rw [List.length_map]
    have h2 := (evF_lens h).2.1
    unfold ruF at h2
    rw [if_pos hr] at h2
    exact btL_len (sf_ev h2 (evF_lens h).2.2.1) _ _
  · simp
theorem ofStart_any (e : Evt) (s : Evs) (fr t : Int) (w : World) (hv : EvB w e s) (hT : Tab w) (h : evF e = 0) :
    Calls Tryz.prog 227 #[.agg (ecells e s), .int .i64 fr, .int .i64 t] w (OfA w.heap.size w (stL e fr t)) := by
  unfold stL
  rcases hr : e.rep with _ | _
  · rw [if_neg (by decide)]
    exact ofStart_once e s fr t w hr
  · rw [if_pos rfl]
    have h2 := (evF_lens h).2.1
    unfold ruF at h2
    rw [if_pos hr] at h2
    exact ofStart_rep e s fr t w hv hT hr h2 (evF_lens h).2.2.1
/-- The fault of Local; its times. -/
def loF (e : Evt) (fr t : Int) : Int := lcF (if evF e = 0 then stL e fr t else []) e fr t
def loL (e : Evt) (fr t : Int) : List Int := lcL (if evF e = 0 then stL e fr t else []) e fr t
/-- Is a number a time of Start? -/
def isS (e : Evt) (x : Int) : Prop := if e.rep = true then ∃ n, n ∈ DAYS e.rule (dyo e.start) ∧ x = tmd e.start n else x = e.start
theorem stL_mem {e : Evt} {fr t x : Int} (h : evF e = 0) (hf : ist fr = true) (ht : ist t = true) (h1 : fr ≤ x) (h2 : x ≤ t) : x ∈ stL e fr t ↔ isS e x := by
  unfold stL isS
  split
  · rename_i hr
    have hs := (evF_lens h).2.2.1
    have h3 := (evF_lens h).2.1
    unfold ruF at h3
    rw [if_pos hr] at h3
    have s0 := sf_ev h3 hs
    unfold dyL
    rw [btL_eq s0, List.mem_map]
    constructor
    · rintro ⟨n, hn, rfl⟩
      exact ⟨n, (List.mem_filter.1 hn).1, rfl⟩
    · rintro ⟨n, hn, rfl⟩
      refine ⟨n, List.mem_filter.2 ⟨hn, ?_⟩, rfl⟩
      have e1 := (dyo_ok hs).1
      have e2 := (dyo_ok hf).1
      have e3 := (dyo_ok ht).1
      unfold tmd at h1 h2
      rw [e1] at h1 h2
      rw [e2, e3]
      simp only [decide_eq_true_eq]
      omega
  · simp
theorem loF_good {e : Evt} {fr t : Int} (h : loF e fr t = 0) : evF e = 0 ∧ strB fr t = true ∧ (evL (stL e fr t) e fr t).length ≤ 200 := by
  unfold loF at h
  by_cases g : evF e = 0
  · rw [if_pos g] at h
    rcases hs : strB fr t with _ | _
    · rw [lcF_str g hs] at h; cases h
    · rw [lcF_len g hs] at h
      split at h
      · cases h
      · exact ⟨g, rfl, by omega⟩
  · rw [lcF_ev g] at h; exact absurd h g
theorem loL_good {e : Evt} {fr t : Int} (h : loF e fr t = 0) : loL e fr t = evL (stL e fr t) e fr t := by
  have g := (loF_good h).1
  unfold loF at h
  unfold loL
  rw [lcL_yes h, if_pos g]
theorem loF_of {e : Evt} {fr t : Int} (h : evF e = 0) (hs : strB fr t = true) (hl : (evL (stL e fr t) e fr t).length ≤ 200) : loF e fr t = 0 := by
  unfold loF
  rw [if_pos h, lcF_len h hs, if_neg (by omega)]
theorem strB_ist {fr t : Int} (h : strB fr t = true) : ist fr = true ∧ ist t = true := by
  unfold strB at h
  simp only [Bool.and_eq_true] at h
  exact ⟨h.1.1.1, h.1.1.2⟩
theorem loL_mem {e : Evt} {fr t x : Int} (h : loF e fr t = 0) : x ∈ loL e fr t ↔ (isS e x ∨ x ∈ e.more) ∧ x ∉ e.nots ∧ fr ≤ x ∧ x ≤ t := by
  obtain ⟨g, hs, _⟩ := loF_good h
  obtain ⟨i1, i2⟩ := strB_ist hs
  rw [loL_good h, evL_mem]
  constructor
  · rintro ⟨a, b, c, d⟩
    exact ⟨a.imp (fun q => (stL_mem g i1 i2 c d).1 q) id, b, c, d⟩
  · rintro ⟨a, b, c, d⟩
    exact ⟨a.imp (fun q => (stL_mem g i1 i2 c d).2 q) id, b, c, d⟩
theorem loL_rise {e : Evt} {fr t : Int} (h : loF e fr t = 0) : (loL e fr t).Pairwise (· < ·) := by
  rw [loL_good h]; exact evL_rise _ _ _ _
theorem loL_len {e : Evt} {fr t : Int} (h : loF e fr t = 0) : (loL e fr t).length ≤ 200 := by
  rw [loL_good h]; exact (loF_good h).2.2
/-- In two parts. -/
theorem two_parts {e : Evt} {fr c t : Int} (h : loF e fr t = 0) (h1 : fr ≤ c) (h2 : c < t) : loF e fr c = 0 ∧ loF e (c + 1) t = 0 ∧ loL e fr c ++ loL e (c + 1) t = loL e fr t := by
  obtain ⟨g, hs, hl⟩ := loF_good h
  obtain ⟨i1, i2⟩ := strB_ist hs
  have e1 := strB_ends hs
  have a1 := of_decide_eq_true i1
  have a2 := of_decide_eq_true i2
  have ic : ist c = true := decide_eq_true (by omega)
  have id : ist (c + 1) = true := decide_eq_true (by omega)
  have s1 : strB fr c = true := by unfold strB; rw [i1, ic, decide_eq_true h1, decide_eq_true (by omega)]; rfl
  have s2 : strB (c + 1) t = true := by unfold strB; rw [id, i2, decide_eq_true (by omega), decide_eq_true (by omega)]; rfl
  have m1 : ∀ x, x ∈ evL (stL e fr c) e fr c ↔ (isS e x ∨ x ∈ e.more) ∧ x ∉ e.nots ∧ fr ≤ x ∧ x ≤ c := fun x => by
    rw [evL_mem]
    constructor
    · rintro ⟨a, b, q, d⟩
      exact ⟨a.imp (fun z => (stL_mem g i1 ic q d).1 z) _root_.id, b, q, d⟩
    · rintro ⟨a, b, q, d⟩
      exact ⟨a.imp (fun z => (stL_mem g i1 ic q d).2 z) _root_.id, b, q, d⟩
  have m2 : ∀ x, x ∈ evL (stL e (c + 1) t) e (c + 1) t ↔ (isS e x ∨ x ∈ e.more) ∧ x ∉ e.nots ∧ c + 1 ≤ x ∧ x ≤ t := fun x => by
    rw [evL_mem]
    constructor
    · rintro ⟨a, b, q, d⟩
      exact ⟨a.imp (fun z => (stL_mem g id i2 q d).1 z) _root_.id, b, q, d⟩
    · rintro ⟨a, b, q, d⟩
      exact ⟨a.imp (fun z => (stL_mem g id i2 q d).2 z) _root_.id, b, q, d⟩
  have m3 := fun x => loL_mem (x := x) h
  have eq : evL (stL e fr c) e fr c ++ evL (stL e (c + 1) t) e (c + 1) t = loL e fr t := by
    refine rise_ext2 (List.pairwise_append.2 ⟨evL_rise _ _ _ _, evL_rise _ _ _ _, fun x hx y hy => ?_⟩) (loL_rise h) (fun x => ?_)
    · have q1 := (m1 x).1 hx
      have q2 := (m2 y).1 hy
      omega
    · rw [List.mem_append, m1, m2, m3]
      constructor
      · rintro (⟨a, b, q, d⟩ | ⟨a, b, q, d⟩)
        · exact ⟨a, b, q, by omega⟩
        · exact ⟨a, b, by omega, d⟩
      · rintro ⟨a, b, q, d⟩
        by_cases z : x ≤ c
        · exact Or.inl ⟨a, b, q, z⟩
        · exact Or.inr ⟨a, b, by omega, d⟩
  have hlen := congrArg List.length eq
  rw [List.length_append] at hlen
  have hl3 := loL_len h
  have f1 := loF_of g s1 (by omega)
  have f2 := loF_of g s2 (by omega)
  exact ⟨f1, f2, by rw [loL_good f1, loL_good f2]; exact eq⟩
/-- The event that is asked first. -/
abbrev evH : Evt := ⟨⟨#[97]⟩, ⟨#[]⟩, 66729179, 0, true, ⟨1, 2, 0, 0, [], [], [], []⟩, [66729200], [66729179], [], []⟩
theorem evH_fault : evF evH = 0 := by decide
theorem evH_days (x : Int) : x ∈ DAYS evH.rule 46340 ↔ ∃ i : Nat, x = 46340 + (i : Int) * 2 ∧ x ≤ 109573 := by
  have h0 : sf (rsc 2 0) 46340 = 0 := by decide
  obtain ⟨L, h1, h2, h3, h4⟩ := dly_all (e := 2) (c := 0) (s := 46340) (by decide) (by decide) (by decide)
  have hb := btL_all h0
  rw [h1] at hb
  unfold cutC at hb
  rw [if_pos rfl] at hb
  have hx := fun x (q : x ∈ DAYS (rsc 2 0) 46340) => DAYS_in h0 q
  show x ∈ DAYS (rsc 2 0) 46340 ↔ _
  rw [← hb] at hx ⊢
  constructor
  · intro q
    obtain ⟨i, hi, e⟩ := List.getElem_of_mem q
    have := h2 i hi
    rw [List.getD_eq_getElem?_getD, List.getElem?_eq_getElem hi] at this
    exact ⟨i, by rw [← e]; exact this, (hx x q).2.1⟩
  · rintro ⟨i, e, q⟩
    have hi : i < L.length := by omega
    have := h2 i hi
    rw [List.getD_eq_getElem?_getD, List.getElem?_eq_getElem hi] at this
    rw [e, ← this]
    exact List.getElem_mem hi
theorem evH_list : evL (stL evH 66729000 66733000) evH 66729000 66733000 = [66729200, 66732059] := by
  refine rise_ext2 (evL_rise _ _ _ _) (by decide) (fun x => ?_)
  rw [evL_mem]
  constructor
  · rintro ⟨a, b, c, d⟩
    have b' : x ≠ 66729179 := by simpa using b
    rcases a with a | a
    · have a' := (stL_mem evH_fault (by decide) (by decide) c d).1 a
      obtain ⟨n, hn, rfl⟩ : ∃ n, n ∈ DAYS evH.rule (dyo evH.start) ∧ x = tmd evH.start n := a'
      have e1 : dyo evH.start = 46340 := by decide
      rw [e1] at hn
      obtain ⟨i, hi, _⟩ := (evH_days n).1 hn
      have e2 : tmd evH.start n = 66729179 + (n - 46340) * 1440 := by unfold tmd; rw [e1]
      rw [e2] at b' c d ⊢
      have : i = 1 := by omega
      subst this
      rw [hi]
      decide
    · have a' : x = 66729200 := by simpa using a
      rw [a']; simp
  · intro q
    have q' : x = 66729200 ∨ x = 66732059 := by simpa using q
    rcases q' with rfl | rfl
    · exact ⟨Or.inr (by simp), by simp, by decide, by decide⟩
    · refine ⟨Or.inl ((stL_mem evH_fault (by decide) (by decide) (by decide) (by decide)).2 ?_), by simp, by decide, by decide⟩
      show ∃ n, n ∈ DAYS evH.rule (dyo evH.start) ∧ (66732059 : Int) = tmd evH.start n
      have e1 : dyo evH.start = 46340 := by decide
      refine ⟨46342, by rw [e1]; exact (evH_days 46342).2 ⟨1, by decide, by decide⟩, ?_⟩
      unfold tmd
      rw [e1]
      decide
theorem evH_told : loF evH 66729000 66733000 = 0 := loF_of evH_fault (by decide) (by rw [evH_list]; decide)
theorem evH_told2 : loL evH 66729000 66733000 = [66729200, 66732059] := by rw [loL_good evH_told, evH_list]
end Go.Proofs.YthdohcjingfpoaaGreatDoor
