/-
  What is proved here: what event.changeOf and event.Moved answer of any event (contracts over the translation).
-/
import Derived.Test.YthdohcjingfpoaaGreatDoorBV
import Derived.Test.YthdohcjingfpoaaGreatDoorEvSet
import Derived.Deep.Cut
namespace Go.Proofs.YthdohcjingfpoaaGreatDoor
open Go.RowKit Cal Txt

theorem isIts_any (x : Int) (c : Int × Int) (b : Nat) (w : World) (hb : w.cell? ⟨b, 0, none⟩ = some (.int .i64 x)) :
    Calls Tryz.prog 233 #[.agg #[.int .i64 c.1, .int .i64 c.2], .pointer (some ⟨b, 0, none⟩)] w fun e w' => e = .returned (.bool (c.1 == x)) ∧ Below w.heap.size w w' := by
  have B0 := (Below.refl w.heap.size w).alloc (Nat.le_refl _) (.cells #[.int .i64 c.1, .int .i64 c.2] 135)
  have HB := Lib.hid B0
  have c0 : (w.alloc (.cells #[.int .i64 c.1, .int .i64 c.2] 135)).cell? ⟨b, 0, none⟩ = some (.int .i64 x) := (B0.cell (p := ⟨b, 0, none⟩) (ecell_in hb)).trans hb
  have bl := ecell_in hb
  clear B0 hb
  go_enter Tryz.func233, Tryz.ntmps233
  go_wp2
  go_ret
  exact ⟨rfl, HB.out⟩
/-- Where a change of a time stands. -/
def IxcA (x : Int) (l : List (Int × Int)) (e : Ending) : Prop :=
  (e = .returned (.int .i64 (-1)) ∧ ∀ i, i < l.length → ¬ (l.getD i (0, 0)).1 = x) ∨ ∃ k : Nat, e = .returned (.int .i64 k) ∧ k < l.length ∧ (l.getD k (0, 0)).1 = x ∧ ∀ i, i < k → ¬ (l.getD i (0, 0)).1 = x
set_option maxRecDepth 100000 in
set_option maxHeartbeats 1000000 in
theorem idxc_any (x : Int) (b : Nat) (v : Value) (l : List (Int × Int)) (w : World) (hv : Nths w v l) (hb : w.cell? ⟨b, 0, none⟩ = some (.int .i64 x)) (hl : l.length ≤ 1000000) :
    Calls Tryz.prog 234 #[v, .func (.func 233) #[] #[.pointer (some ⟨b, 0, none⟩)]] w fun e w' => IxcA x l e ∧ Below w.heap.size w w' := by
  have HV := Lib.hid hv
  have HC := Lib.hid hb
  obtain ⟨a, cap, rfl, hc⟩ := hv
  clear hb hc
  have eg : ∀ args w, (callFunc 233 args).run Tryz.prog w = .ok (.enter 233 args) w := enters_of Tryz.func233 (by kernel_rfl) rfl
  go_enter Tryz.func234, Tryz.ntmps234
  go_wp2
  go_loopw [8] (fun i wr => ∃ k : Nat, k ≤ l.length ∧ i = .int .i64 k ∧ (∀ i, i < k → ¬ (l.getD i (0, 0)).1 = x) ∧ Below w.heap.size w wr) (fun i _ => l.length - (intOf i).toNat)
  case atStart => exact ⟨0, Nat.zero_le _, rfl, fun i hi => absurd hi (Nat.not_lt_zero _), Below.refl _ _⟩
  case round =>
    obtain ⟨k, hk, rfl, hF, hB⟩ := hrel
    have HF := Lib.hid hF
    have HB := Lib.hid hB
    clear hF
    by_cases hlt : k < l.length
    · obtain ⟨a', c', e', hc⟩ := HV.out.on hB
      obtain ⟨rfl, rfl⟩ : a = a' ∧ cap = c' := by simpa using e'
      rcases hc with hc | ⟨g, off, rfl, hc⟩
      · rw [hc] at hlt; simp at hlt
      obtain ⟨k1, k2⟩ := hc k hlt
      have KG := Lib.hid (isIts_any x (l.getD k (0, 0)) b wr ((hB.cell (p := ⟨b, 0, none⟩) (ecell_in HC.out)).trans HC.out))
      obtain ⟨X, hX⟩ : ∃ X, X = l.getD k (0, 0) := ⟨_, rfl⟩
      rw [← hX] at k1 k2 KG
      have HX := Lib.hid hX
      clear hX hc e' hB
      go_wp2_with fail
      refine KG.out.mono ?_
      rintro e w2 ⟨rfl, hb⟩
      have HB2 := Lib.hid (HB.out.trans (hb.mono HB.out.size))
      clear hb KG
      rcases hp : (X.1 == x) with _ | _
      · have N1 : Hid (∀ i, i < k + 1 → ¬ (l.getD i (0, 0)).1 = x) := Lib.hid (fun i hi => by
          rcases Nat.lt_or_ge i k with q | q
          · exact HF.out i q
          · rw [show i = k by omega, ← HX.out]; simpa using hp)
        go_wp2
        go_roundw
        case rel => exact ⟨k + 1, by omega, by go_num, N1.out, HB2.out⟩
        case measure => simp [intOf]; omega
      · have N1 : Hid ((l.getD k (0, 0)).1 = x) := Lib.hid (by rw [← HX.out]; simpa using hp)
        go_wp2
        go_ret
        exact ⟨Or.inr ⟨k, rfl, hlt, N1.out, HF.out⟩, HB2.out⟩
    · go_wp2
      go_ret
      exact ⟨Or.inl ⟨rfl, fun i hi => HF.out i (by omega)⟩, HB.out⟩
/-- The change of a time: the first. -/
def chOf (l : List (Int × Int)) (x : Int) : Option Int := (l.find? (fun c => c.1 == x)).map (·.2)
theorem chOf_none : ∀ {l : List (Int × Int)} {x : Int}, (∀ i, i < l.length → ¬ (l.getD i (0, 0)).1 = x) → chOf l x = none
  | [], _, _ => rfl
  | c :: l, x, h => by
    have h0 : ¬ c.1 = x := h 0 (by simp)
    unfold chOf
    rw [List.find?_cons_of_neg (by simpa using h0)]
    exact chOf_none (fun i hi => h (i + 1) (by simpa using hi))
theorem chOf_some : ∀ {l : List (Int × Int)} {x : Int} {k : Nat}, k < l.length → (l.getD k (0, 0)).1 = x → (∀ i, i < k → ¬ (l.getD i (0, 0)).1 = x) → chOf l x = some (l.getD k (0, 0)).2
  | [], _, _, hk, _, _ => by simp at hk
  | c :: l, x, 0, _, h, _ => by
    unfold chOf
    rw [List.find?_cons_of_pos (by simpa using h)]
    rfl
  | c :: l, x, k + 1, hk, h, f => by
    have h0 : ¬ c.1 = x := f 0 (by omega)
    have ih := chOf_some (l := l) (x := x) (k := k) (by simpa using hk) h (fun i hi => f (i + 1) (by omega))
    unfold chOf at ih ⊢
    rw [List.find?_cons_of_neg (by simpa using h0)]
    exact ih
/-- The change of a time as it is told. -/
def chA (l : List (Int × Int)) (x : Int) : Int := match chOf l x with | some _ => x | none => 0
def chT (l : List (Int × Int)) (x : Int) : Int := (chOf l x).getD 0
set_option maxRecDepth 100000 in
set_option maxHeartbeats 2000000 in
theorem changeOf_any (e : Evt) (s : Evs) (x : Int) (w : World) (hv : Nths w s.vc e.chg) (hl : e.chg.length ≤ 1000000) :
    Calls Tryz.prog 208 #[.agg (ecells e s), .int .i64 x] w fun y w' => y = .returned (.tuple #[.agg #[.int .i64 (chA e.chg x), .int .i64 (chT e.chg x)], .bool (chOf e.chg x).isSome]) ∧ Below w.heap.size w w' := by
  have B0 := (Below.refl w.heap.size w).alloc (Nat.le_refl _) (.cells (ecells e s) 40)
  have B1 := B0.alloc B0.size (.cells #[.int .i64 x] 3)
  have B2 := B1.alloc B1.size (.cells #[.int .i64 0, .int .i64 0] 135)
  have R0 := ((EBox.new w e s 40).on ((Below.refl _ _).alloc (Nat.le_refl _) (.cells #[.int .i64 x] 3))).on ((Below.refl _ _).alloc (Nat.le_refl _) (.cells #[.int .i64 0, .int .i64 0] 135))
  obtain ⟨W1, hW1⟩ : ∃ W1, W1 = w.alloc (.cells (ecells e s) 40) := ⟨_, rfl⟩
  have z1 : W1.heap.size = w.heap.size + 1 := by rw [hW1, World.size_alloc]
  rw [← hW1] at B0 B1 B2 R0
  have C0 : ((W1.alloc (.cells #[.int .i64 x] 3)).alloc (.cells #[.int .i64 0, .int .i64 0] 135)).cell? ⟨w.heap.size + 1, 0, none⟩ = some (.int .i64 x) := by rw [← z1]; simp
  have T0 : ((W1.alloc (.cells #[.int .i64 x] 3)).alloc (.cells #[.int .i64 0, .int .i64 0] 135)).cell? ⟨w.heap.size + 1 + 1, 0, none⟩ = some (.int .i64 0) := by rw [← z1]; simp
  have T1 : ((W1.alloc (.cells #[.int .i64 x] 3)).alloc (.cells #[.int .i64 0, .int .i64 0] 135)).cell? ⟨w.heap.size + 1 + 1, 1, none⟩ = some (.int .i64 0) := by rw [← z1]; simp
  have Z0 : ((W1.alloc (.cells #[.int .i64 x] 3)).alloc (.cells #[.int .i64 0, .int .i64 0] 135)).frozen? ⟨w.heap.size + 1 + 1, 0, none⟩ = false := by rw [← z1]; simp
  have Z1 : ((W1.alloc (.cells #[.int .i64 x] 3)).alloc (.cells #[.int .i64 0, .int .i64 0] 135)).frozen? ⟨w.heap.size + 1 + 1, 1, none⟩ = false := by rw [← z1]; simp
  obtain ⟨W0, hW⟩ : ∃ W0, W0 = (W1.alloc (.cells #[.int .i64 x] 3)).alloc (.cells #[.int .i64 0, .int .i64 0] 135) := ⟨_, rfl⟩
  rw [← hW] at B2 R0 C0 T0 T1 Z0 Z1
  rw [hW1] at hW
  have HW := Lib.hid hW
  have HV := Lib.hid (hv.on B2)
  have KI := Lib.hid (idxc_any x (w.heap.size + 1) s.vc e.chg W0 HV.out C0 hl)
  have CN := Lib.hid (@chOf_none e.chg x)
  have CS := Lib.hid (fun k => @chOf_some e.chg x k)
  have EA : Hid (chA e.chg x = match chOf e.chg x with | some _ => x | none => 0) := Lib.hid rfl
  have ET : Hid (chT e.chg x = (chOf e.chg x).getD 0) := Lib.hid rfl
  generalize chA e.chg x = CA at EA ⊢
  generalize chT e.chg x = CT at ET ⊢
  generalize chOf e.chg x = C at EA ET CN CS ⊢
  have HB := Lib.hid B2
  have HR := Lib.hid R0
  have HK := Lib.hid (And.intro T0 (And.intro T1 (And.intro Z0 Z1)))
  have c15 := R0.2.2.2.2.1
  have rl := R0.lt
  clear hv B0 B1 B2 R0 C0 T0 T1 Z0 Z1 hW hW1 z1 hl W1
  go_enter Tryz.func208, Tryz.ntmps208
  go_upto_region 1 with fail
  rw [← HW.out]
  clear HW
  go_wp2_with fail
  refine KI.out.mono ?_
  rintro y w3 ⟨hi, hb⟩
  have B3 := Lib.hid (HB.out.trans (hb.mono HB.out.size))
  have R3 := Lib.hid (HR.out.on hb)
  have V3 := Lib.hid (HV.out.on hb)
  obtain ⟨cc, ff⟩ := bcell hb
  have lt3 := ecell_in HK.out.1
  have t0 := (cc _ _ lt3).trans HK.out.1
  have t1 := (cc _ _ lt3).trans HK.out.2.1
  have f0 := (ff _ _ lt3).trans HK.out.2.2.1
  have f1 := (ff _ _ lt3).trans HK.out.2.2.2
  have l3 : w.heap.size + 1 + 1 < w3.heap.size := Nat.lt_of_lt_of_le lt3 hb.size
  have wl : w.heap.size ≤ w.heap.size + 1 + 1 := by omega
  clear hb cc ff HB HR HK KI HV c15 rl lt3
  rcases hi with ⟨rfl, hn⟩ | ⟨k, rfl, hk, hx, hn⟩
  · have E := Lib.hid (CN.out hn)
    clear hn CN CS V3
    go_wp2
    refine bodyPost_ret (v := .tuple #[.agg #[.int .i64 0, .int .i64 0], .bool false]) (by simp [results, Tryz.results208, go_sem, t0, t1]) rfl ⟨by rw [EA.out, ET.out, E.out]; rfl, ?_⟩
    repeat (first | exact B3.out | refine Below.setCell ?_ wl _)
  · have E := Lib.hid (CS.out k hk hx hn)
    obtain ⟨ac, cp, ec, hc⟩ := V3.out
    rcases hc with hc | ⟨g, off, rfl, hc⟩
    · rw [hc] at hk; simp at hk
    obtain ⟨k1, k2⟩ := hc k hk
    have c15 : w3.cell? ⟨w.heap.size, 15, none⟩ = some (.slice (some ⟨g, off, none⟩) e.chg.length cp) := by rw [← ec]; exact R3.out.2.2.2.2.1
    have rl := R3.out.lt
    rw [hx] at k1
    generalize (e.chg.getD k (0, 0)).2 = n at k2 E
    clear hn hx hc ec CN CS V3 R3
    go_wp2
    refine bodyPost_ret (v := .tuple #[.agg #[.int .i64 x, .int .i64 n], .bool true]) (by simp [results, Tryz.results208, go_sem, t0, t1]) rfl ⟨by rw [EA.out, ET.out, E.out]; rfl, ?_⟩
    repeat (first | exact B3.out | refine Below.setCell ?_ wl _)
/-- What Moved tells. -/
def mvF (e : Evt) (x : Int) : Int := if ¬ evF e = 0 then evF e else if (evL (stL e x x) e x x).length = 0 then 5 else 0
def mvT (e : Evt) (x : Int) : Int := if mvF e x = 0 then (chOf e.chg x).getD x else 0
def mvO (e : Evt) (x : Int) : Bool := if mvF e x = 0 then (match chOf e.chg x with | some n => n == 0 | none => false) else false
end Go.Proofs.YthdohcjingfpoaaGreatDoor
