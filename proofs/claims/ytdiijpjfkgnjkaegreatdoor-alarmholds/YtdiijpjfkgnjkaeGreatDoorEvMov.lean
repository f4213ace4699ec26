/-
  What is proved here: what event.changeOf and event.Moved answer of any event (contracts over the translation).
-/
import Derived.Test.YtdiijpjfkgnjkaeGreatDoorBV
import Derived.Deep.Cut
namespace Go.Proofs.YtdiijpjfkgnjkaeGreatDoor
open Go.RowKit Cal Txt

theorem isIts_any (x : Int) (c : Int × Int) (b : Nat) (w : World) (hb : w.cell? ⟨b, 0, none⟩ = some (.int .i64 x)) :
    Calls Tryz.prog 76 #[.agg #[.int .i64 c.1, .int .i64 c.2], .pointer (some ⟨b, 0, none⟩)] w fun e w' => e = .returned (.bool (c.1 == x)) ∧ Below w.heap.size w w' := by
  have B0 := (Below.refl w.heap.size w).alloc (Nat.le_refl _) (.cells #[.int .i64 c.1, .int .i64 c.2] 54)
  have HB := Lib.hid B0
  have c0 : (w.alloc (.cells #[.int .i64 c.1, .int .i64 c.2] 54)).cell? ⟨b, 0, none⟩ = some (.int .i64 x) := (B0.cell (p := ⟨b, 0, none⟩) (ecell_in hb)).trans hb
  have bl := ecell_in hb
  clear B0 hb
  go_enter Tryz.func76, Tryz.ntmps76
  go_wp2
  go_ret
  exact ⟨rfl, HB.out⟩
/-- Where a change of a time stands. -/
def IxcA (x : Int) (l : List (Int × Int)) (e : Ending) : Prop :=
  (e = .returned (.int .i64 (-1)) ∧ ∀ i, i < l.length → ¬ (l.getD i (0, 0)).1 = x) ∨ ∃ k : Nat, e = .returned (.int .i64 k) ∧ k < l.length ∧ (l.getD k (0, 0)).1 = x ∧ ∀ i, i < k → ¬ (l.getD i (0, 0)).1 = x
set_option maxRecDepth 100000 in
set_option maxHeartbeats 1000000 in
theorem idxc_any (x : Int) (b : Nat) (v : Value) (l : List (Int × Int)) (w : World) (hv : Nths w v l) (hb : w.cell? ⟨b, 0, none⟩ = some (.int .i64 x)) (hl : l.length ≤ 1000000) :
    Calls Tryz.prog 77 #[v, .func (.func 76) #[] #[.pointer (some ⟨b, 0, none⟩)]] w fun e w' => IxcA x l e ∧ Below w.heap.size w w' := by
  have HV := Lib.hid hv
  have HC := Lib.hid hb
  obtain ⟨a, cap, rfl, hc⟩ := hv
  clear hb hc
  have eg : ∀ args w, (callFunc 76 args).run Tryz.prog w = .ok (.enter 76 args) w := enters_of Tryz.func76 (by kernel_rfl) rfl
  go_enter Tryz.func77, Tryz.ntmps77
  go_wp2
  go_loopw [8] (fun i wr => ∃ k : Nat, k ≤ l.length ∧ i = .int .i64 k ∧ (∀ i, i < k → ¬ (l.getD i (0, 0)).1 = x) ∧ Below w.heap.size w wr) (fun i _ => l.length - (intOf i).toNat)
  case atStart => exact ⟨0, Nat.zero_le _, rfl, fun i hi => absurd hi (Nat.not_lt_zero _), Below.refl _ _⟩
  case round =>
    obtain ⟨k, hk, rfl, hF, hB⟩ := hrel
    have HF := Lib.hid hF
    have HB := Lib.hid hB
    clear hF
    by_cases hlt : k < l.length
    · obtain ⟨a', c', e', hc⟩ := HV.out.on hB
      obtain ⟨rfl, rfl⟩ : a = a' ∧ cap = c' := by simpa using e'
      rcases hc with hc | ⟨g, off, rfl, hc⟩
      · rw [hc] at hlt; simp at hlt
      obtain ⟨k1, k2⟩ := hc k hlt
      have KG := Lib.hid (isIts_any x (l.getD k (0, 0)) b wr ((hB.cell (p := ⟨b, 0, none⟩) (ecell_in HC.out)).trans HC.out))
      obtain ⟨X, hX⟩ : ∃ X, X = l.getD k (0, 0) := ⟨_, rfl⟩
      rw [← hX] at k1 k2 KG
      have HX := Lib.hid hX
      clear hX hc e' hB
      go_wp2_with fail
      refine KG.out.mono ?_
      rintro e w2 ⟨rfl, hb⟩
      have HB2 := Lib.hid (HB.out.trans (hb.mono HB.out.size))
      clear hb KG
      rcases hp : (X.1 == x) with _ | _
      · have N1 : Hid (∀ i, i < k + 1 → ¬ (l.getD i (0, 0)).1 = x) := Lib.hid (fun i hi => by
          rcases Nat.lt_or_ge i k with q | q
          · exact HF.out i q
          · rw [show i = k by omega, ← HX.out]; simpa using hp)
        go_wp2
        go_roundw
        case rel => exact ⟨k + 1, by omega, by go_num, N1.out, HB2.out⟩
        case measure => simp [intOf]; omega
      · have N1 : Hid ((l.getD k (0, 0)).1 = x) := Lib.hid (by rw [← HX.out]; simpa using hp)
        go_wp2
        go_ret
        exact ⟨Or.inr ⟨k, rfl, hlt, N1.out, HF.out⟩, HB2.out⟩
    · go_wp2
      go_ret
      exact ⟨Or.inl ⟨rfl, fun i hi => HF.out i (by omega)⟩, HB.out⟩
/-- The change of a time: the first. -/
def chOf (l : List (Int × Int)) (x : Int) : Option Int := (l.find? (fun c => c.1 == x)).map (·.2)
theorem chOf_none : ∀ {l : List (Int × Int)} {x : Int}, (∀ i, i < l.length → ¬ (l.getD i (0, 0)).1 = x) → chOf l x = none
  | [], _, _ => rfl
  | c :: l, x, h => by
    have h0 : ¬ c.1 = x := h 0 (by simp)
    unfold chOf
    rw [List.find?_cons_of_neg (by simpa using h0)]
    exact chOf_none (fun i hi => h (i + 1) (by simpa using hi))
theorem chOf_some : ∀ {l : List (Int × Int)} {x : Int} {k : Nat}, k < l.length → (l.getD k (0, 0)).1 = x → (∀ i, i < k → ¬ (l.getD i (0, 0)).1 = x) → chOf l x = some (l.getD k (0, 0)).2
  | [], _, _, hk, _, _ => by simp at hk
  | c :: l, x, 0, _, h, _ => by
    unfold chOf
    rw [List.find?_cons_of_pos (by simpa using h)]
    rfl
  | c :: l, x, k + 1, hk, h, f => by
    have h0 : ¬ c.1 = x := f 0 (by omega)
    have ih := chOf_some (l := l) (x := x) (k := k) (by simpa using hk) h (fun i hi => f (i + 1) (by omega))
    unfold chOf at ih ⊢
    rw [List.find?_cons_of_neg (by simpa using h0)]
    exact ih
/-- The change of a time as it is told. -/
def chA (l : List (Int × Int)) (x : Int) : Int := match chOf l x with | some _ => x | none => 0
def chT (l : List (Int × Int)) (x : Int) : Int := (chOf l x).getD 0
set_option maxRecDepth 100000 in
set_option maxHeartbeats 2000000 in
theorem changeOf_any (e : Evt) (s : Evs) (x : Int) (w : World) (hv : Nths w s.vc e.chg) (hl : e.chg.length ≤ 1000000) :
    Calls Tryz.prog 38 #[.agg (ecells e s), .int .i64 x] w fun y w' => y = .returned (.tuple #[.agg #[.int .i64 (chA e.chg x), .int .i64 (chT e.chg x)], .bool (chOf e.chg x).isSome]) ∧ Below w.heap.size w w' := by
  have B0 := (Below.refl w.heap.size w).alloc (Nat.le_refl _) (.cells (ecells e s) 29)
  have B1 := B0.alloc B0.size (.cells #[.int .i64 x] 3)
  have B2 := B1.alloc B1.size (.cells #[.int .i64 0, .int .i64 0] 54)
  have R0 := ((EBox.new w e s 29).on ((Below.refl _ _).alloc (Nat.le_refl _) (.cells #[.int .i64 x] 3))).on ((Below.refl _ _).alloc (Nat.le_refl _) (.cells #[.int .i64 0, .int .i64 0] 54))
  obtain ⟨W1, hW1⟩ : ∃ W1, W1 = w.alloc (.cells (ecells e s) 29) := ⟨_, rfl⟩
  have z1 : W1.heap.size = w.heap.size + 1 := by rw [hW1, World.size_alloc]
  rw [← hW1] at B0 B1 B2 R0
  have C0 : ((W1.alloc (.cells #[.int .i64 x] 3)).alloc (.cells #[.int .i64 0, .int .i64 0] 54)).cell? ⟨w.heap.size + 1, 0, none⟩ = some (.int .i64 x) := by rw [← z1]; simp
  have T0 : ((W1.alloc (.cells #[.int .i64 x] 3)).alloc (.cells #[.int .i64 0, .int .i64 0] 54)).cell? ⟨w.heap.size + 1 + 1, 0, none⟩ = some (.int .i64 0) := by rw [← z1]; simp
  have T1 : ((W1.alloc (.cells #[.int .i64 x] 3)).alloc (.cells #[.int .i64 0, .int .i64 0] 54)).cell? ⟨w.heap.size + 1 + 1, 1, none⟩ = some (.int .i64 0) := by rw [← z1]; simp
  have Z0 : ((W1.alloc (.cells #[.int .i64 x] 3)).alloc (.cells #[.int .i64 0, .int .i64 0] 54)).frozen? ⟨w.heap.size + 1 + 1, 0, none⟩ = false := by rw [← z1]; simp
  have Z1 : ((W1.alloc (.cells #[.int .i64 x] 3)).alloc (.cells #[.int .i64 0, .int .i64 0] 54)).frozen? ⟨w.heap.size + 1 + 1, 1, none⟩ = false := by rw [← z1]; simp
  obtain ⟨W0, hW⟩ : ∃ W0, W0 = (W1.alloc (.cells #[.int .i64 x] 3)).alloc (.cells #[.int .i64 0, .int .i64 0] 54) := ⟨_, rfl⟩
  rw [← hW] at B2 R0 C0 T0 T1 Z0 Z1
  rw [hW1] at hW
  have HW := Lib.hid hW
  have HV := Lib.hid (hv.on B2)
  have KI := Lib.hid (idxc_any x (w.heap.size + 1) s.vc e.chg W0 HV.out C0 hl)
  have CN := Lib.hid (@chOf_none e.chg x)
  have CS := Lib.hid (fun k => @chOf_some e.chg x k)
  have EA : Hid (chA e.chg x = match chOf e.chg x with | some _ => x | none => 0) := Lib.hid rfl
  have ET : Hid (chT e.chg x = (chOf e.chg x).getD 0) := Lib.hid rfl
  generalize chA e.chg x = CA at EA ⊢
  generalize chT e.chg x = CT at ET ⊢
  generalize chOf e.chg x = C at EA ET CN CS ⊢
  have HB := Lib.hid B2
  have HR := Lib.hid R0
  have HK := Lib.hid (And.intro T0 (And.intro T1 (And.intro Z0 Z1)))
  have c15 := R0.2.2.2.2.1
  have rl := R0.lt
  clear hv B0 B1 B2 R0 C0 T0 T1 Z0 Z1 hW hW1 z1 hl W1
  go_enter Tryz.func38, Tryz.ntmps38
  go_upto_region 1 with fail
  rw [← HW.out]
  clear HW
  go_wp2_with fail
  refine KI.out.mono ?_
  rintro y w3 ⟨hi, hb⟩
  have B3 := Lib.hid (HB.out.trans (hb.mono HB.out.size))
  have R3 := Lib.hid (HR.out.on hb)
  have V3 := Lib.hid (HV.out.on hb)
  obtain ⟨cc, ff⟩ := bcell hb
  have lt3 := ecell_in HK.out.1
  have t0 := (cc _ _ lt3).trans HK.out.1
  have t1 := (cc _ _ lt3).trans HK.out.2.1
  have f0 := (ff _ _ lt3).trans HK.out.2.2.1
  have f1 := (ff _ _ lt3).trans HK.out.2.2.2
  have l3 : w.heap.size + 1 + 1 < w3.heap.size := Nat.lt_of_lt_of_le lt3 hb.size
  have wl : w.heap.size ≤ w.heap.size + 1 + 1 := by omega
  clear hb cc ff HB HR HK KI HV c15 rl lt3
  rcases hi with ⟨rfl, hn⟩ | ⟨k, rfl, hk, hx, hn⟩
  · have E := Lib.hid (CN.out hn)
    clear hn CN CS V3
    go_wp2
    refine bodyPost_ret (v := .tuple #[.agg #[.int .i64 0, .int .i64 0], .bool false]) (by simp [results, Tryz.results38, go_sem, t0, t1]) rfl ⟨by rw [EA.out, ET.out, E.out]; rfl, ?_⟩
    repeat (first | exact B3.out | refine Below.setCell ?_ wl _)
  · have E := Lib.hid (CS.out k hk hx hn)
    obtain ⟨ac, cp, ec, hc⟩ := V3.out
    rcases hc with hc | ⟨g, off, rfl, hc⟩
    · rw [hc] at hk; simp at hk
    obtain ⟨k1, k2⟩ := hc k hk
    have c15 : w3.cell? ⟨w.heap.size, 15, none⟩ = some (.slice (some ⟨g, off, none⟩) e.chg.length cp) := by rw [← ec]; exact R3.out.2.2.2.2.1
    have rl := R3.out.lt
    rw [hx] at k1
    generalize (e.chg.getD k (0, 0)).2 = n at k2 E
    clear hn hx hc ec CN CS V3 R3
    go_wp2
    refine bodyPost_ret (v := .tuple #[.agg #[.int .i64 x, .int .i64 n], .bool true]) (by simp [results, Tryz.results38, go_sem, t0, t1]) rfl ⟨by rw [EA.out, ET.out, E.out]; rfl, ?_⟩
    repeat (first | exact B3.out | refine Below.setCell ?_ wl _)
/-- What Moved tells. -/
def mvF (e : Evt) (x : Int) : Int := if ¬ evF e = 0 then evF e else if (evL (stL e x x) e x x).length = 0 then 5 else 0
def mvT (e : Evt) (x : Int) : Int := if mvF e x = 0 then (chOf e.chg x).getD x else 0
def mvO (e : Evt) (x : Int) : Bool := if mvF e x = 0 then (match chOf e.chg x with | some n => n == 0 | none => false) else false
set_option maxRecDepth 100000 in
set_option maxHeartbeats 4000000 in
theorem moved_any (e : Evt) (s : Evs) (x : Int) (w : World) (hv : EvB w e s) (hT : Tab w) :
    Calls Tryz.prog 19 #[.agg (ecells e s), .int .i64 x] w fun y w' => y = .returned (.tuple #[.int .i64 (mvT e x), .bool (mvO e x), fault (mvF e x)]) ∧ Below w.heap.size w w' := by
  have B0 := (Below.refl w.heap.size w).alloc (Nat.le_refl _) (.cells (ecells e s) 29)
  have R0 := EBox.new w e s 29
  obtain ⟨W0, hW⟩ : ∃ W0, W0 = w.alloc (.cells (ecells e s) 29) := ⟨_, rfl⟩
  rw [← hW] at B0 R0
  have HW := Lib.hid hW
  have HB := Lib.hid B0
  have HR := Lib.hid R0
  have HV := Lib.hid (fun W (q : Below w.heap.size w W) => hv.on q)
  have KC := Lib.hid (echeck_any e s W0 (hv.on B0))
  have KB := Lib.hid (fun (h : evF e = 0) W (q : Below w.heap.size w W) => between_of e s x x (stL e x x) W (hv.on q) (evF_lens h).1.1 (evF_lens h).1.2.1 (evF_lens h).1.2.2 (stL_len h) (fun W' q' => ofStart_any e s x x W' ((hv.on q).on q') ((hT.below q).below q') h))
  have M0 : Hid (¬ evF e = 0 → mvF e x = evF e) := Lib.hid (fun h => if_pos h)
  have M1 : Hid (evF e = 0 → mvF e x = if (evL (stL e x x) e x x).length = 0 then 5 else 0) := Lib.hid (fun h => if_neg (fun q => q h))
  have MT : Hid (mvT e x = if mvF e x = 0 then (chOf e.chg x).getD x else 0) := Lib.hid rfl
  have MO : Hid (mvO e x = if mvF e x = 0 then (match chOf e.chg x with | some n => n == 0 | none => false) else false) := Lib.hid rfl
  have LC := Lib.hid (fun (h : evF e = 0) => (evF_lens h).2.2.2.2.1)
  generalize mvT e x = MTv at MT ⊢
  generalize mvO e x = MOv at MO ⊢
  generalize mvF e x = F at M0 M1 MT MO ⊢
  generalize evL (stL e x x) e x x = L at M1 KB
  generalize evF e = EF at M0 M1 KC KB LC
  clear hv hT B0 R0 hW
  go_enter Tryz.func19, Tryz.ntmps19
  go_upto_region 1 with fail
  rw [← HW.out]
  clear HW
  go_wp2_with (refine ev_load ?h1 (.tmp 2) ?h2 w.heap.size e s ?h3 HR.out ?h4; (case h1 => rfl); (case h2 => rfl); (case h3 => rfl))
  refine KC.out.mono ?_
  rintro y w1 ⟨rfl, hb⟩
  have B1 := Lib.hid (HB.out.trans (hb.mono HB.out.size))
  have R1 := Lib.hid (HR.out.on hb)
  clear hb HB HR KC
  by_cases hz : EF = 0
  case neg =>
    have N : Hid (F = EF) := Lib.hid (M0.out hz)
    have NF : Hid (MTv = 0 ∧ MOv = false) := Lib.hid ⟨MT.out.trans (if_neg (by rw [N.out]; exact hz)), MO.out.trans (if_neg (by rw [N.out]; exact hz))⟩
    rw [efault_ne hz]
    have HZ := Lib.hid hz
    clear hz M0 M1 MT MO KB LC
    go_wp2
    go_ret3
    exact ⟨by rw [N.out, NF.out.1, NF.out.2, efault_ne HZ.out]; rfl, B1.out⟩
  have K2 := Lib.hid (KB.out hz _ B1.out)
  have G1 := Lib.hid (M1.out hz)
  have cl := LC.out hz
  rw [hz, efault_0]
  clear hz M0 M1 KB LC
  go_wp2_with (refine ev_load ?k1 (.tmp 2) ?k2 w.heap.size e s ?k3 R1.out ?k4; (case k1 => rfl); (case k2 => rfl); (case k3 => rfl))
  refine K2.out.mono ?_
  rintro y w2 ⟨v, rfl, hw, hb⟩
  have B2 := Lib.hid (B1.out.trans (hb.mono B1.out.size))
  have R2 := Lib.hid (R1.out.on hb)
  obtain ⟨a, cap, rfl, _⟩ := hw.open
  clear hb hw B1 R1 K2
  rcases h0 : ((L.length : Int) == 0) with _ | _
  case true =>
    have l0 : L.length = 0 := by have := beq_iff_eq.1 h0; omega
    have N : Hid (F = 5) := Lib.hid (G1.out.trans (if_pos l0))
    have NF : Hid (MTv = 0 ∧ MOv = false) := Lib.hid ⟨MT.out.trans (if_neg (by rw [N.out]; decide)), MO.out.trans (if_neg (by rw [N.out]; decide))⟩
    clear G1 MT MO l0
    go_wp2
    go_ret3
    exact ⟨by rw [N.out, NF.out.1, NF.out.2]; rfl, B2.out⟩
  have N : Hid (F = 0) := Lib.hid (G1.out.trans (if_neg (by have := beq_eq_false_iff_ne.1 h0; omega)))
  have T1 : Hid (MTv = (chOf e.chg x).getD x) := Lib.hid (MT.out.trans (if_pos N.out))
  have T2 : Hid (MOv = (match chOf e.chg x with | some n => n == 0 | none => false)) := Lib.hid (MO.out.trans (if_pos N.out))
  clear G1 MT MO
  have KI := Lib.hid (changeOf_any e s x w2 (HV.out _ B2.out).2.2.2.2.2.2.1 (by omega))
  have SM : Hid (∀ n, chOf e.chg x = some n → chT e.chg x = n) := Lib.hid (fun n q => by unfold chT; rw [q]; rfl)
  generalize chT e.chg x = CT at KI SM
  generalize chA e.chg x = CA at KI
  go_wp2_with (refine ev_load ?l1 (.tmp 2) ?l2 w.heap.size e s ?l3 R2.out ?l4; (case l1 => rfl); (case l2 => rfl); (case l3 => rfl))
  refine KI.out.mono ?_
  rintro y w3 ⟨rfl, hb⟩
  have B3 := B2.out.trans (hb.mono B2.out.size)
  have B4 := Lib.hid (fun o => B3.alloc B3.size o)
  clear hb B2 R2 KI B3 HV
  rcases hq : chOf e.chg x with _ | n
  · rw [hq] at T1 T2
    go_wp2
    go_ret3
    exact ⟨by rw [T1.out, T2.out, N.out]; rfl, B4.out _⟩
  · have E := Lib.hid (SM.out n hq)
    rw [hq] at T1 T2
    go_wp2_with fail
    go_quiet (fail)
    go_wp2
    go_ret3
    exact ⟨by rw [T1.out, T2.out, N.out, E.out]; rfl, below_drewN (B4.out _) _⟩
end Go.Proofs.YtdiijpjfkgnjkaeGreatDoor
