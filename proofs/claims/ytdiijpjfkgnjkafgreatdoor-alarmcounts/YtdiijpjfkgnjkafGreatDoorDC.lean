/-
  What is proved here: plain facts on the rings of an event, as chimelaw2.AlarmHolds asks them.
  What is proved here: what chimesame's Rings answers of two lists of one event's rings that are the same (a contract over the translation).
-/
import Derived.Test.YtdiijpjfkgnjkafGreatDoorAlRing
import Derived.Test.YtdiijpjfkgnjkafGreatDoorBZ
import Derived.BigQuiet
namespace Go.Proofs.YtdiijpjfkgnjkafGreatDoor
open Go.RowKit Cal Txt

/-- The event that is asked first. -/
abbrev evR : Evt := ⟨⟨#[97]⟩, ByteArray.empty, 66729179, 60, false, noRl, [], [], [], [(-10, false, 1, 3), (0, true, 0, 0)]⟩
abbrev rgR : List Rg := [(66729169, 66729179, 0, 0), (66729172, 66729179, 0, 1), (66729239, 66729179, 1, 0)]
theorem evR_fault : evF evR = 0 := by decide
theorem evR_list : rgS 0 [] evR 66729000 66730000 = rgR := by
  have hz : Zo.zf 0 [] = 0 := by decide
  have le : evR.len = 60 := rfl
  have re : ∀ x, rea evR x = some x := fun x => rfl
  have ie : ∀ x, isE evR x ↔ x = 66729179 := fun x => by
    unfold isE isS
    have r0 : evR.rep = false := rfl
    have m0 : evR.more = [] := rfl
    have n0 : evR.nots = [] := rfl
    have s0 : evR.start = 66729179 := rfl
    rw [r0, m0, n0, s0]
    simp
  refine rg_ext (rgS_rise evR_fault) (by simp [ltR]) (fun x => ?_)
  rw [rgS_mem evR_fault hz]
  unfold isRg
  simp only [ie, re]
  constructor
  · rintro ⟨y, ⟨y1, r, hr, ht⟩, ⟨k, hk, u, hu, rfl⟩, _⟩
    obtain ⟨_, _, q3⟩ := tim_nil.1 ht
    obtain ⟨ya, yb, yc⟩ := y
    simp only [Prod.mk.injEq, true_and] at q3 y1
    have hr' : ya = r := by simpa using hr
    have hk2 : k < 2 := hk
    have e1 : yb = 66729179 := by omega
    subst y1 e1
    rcases (by omega : k = 0 ∨ k = 1) with rfl | rfl
    · have hu2 : u < 2 := hu
      rcases (by omega : u = 0 ∨ u = 1) with rfl | rfl <;> simp [rg1, bhd]
    · have hu2 : u < 1 := hu
      obtain rfl : u = 0 := by omega
      simp [rg1, bhd]
  · intro q
    have tm : tim 0 [] evR (66729179, 66729179) = some (66729179, 66729179, 66729239) := tim_nil.2 ⟨by decide, by decide, rfl⟩
    refine ⟨(66729179, 66729179, 66729239), ⟨rfl, 66729179, rfl, tm⟩, ?_, ?_⟩
    · simp at q
      rcases q with rfl | rfl | rfl
      · exact ⟨0, by decide, 0, by decide, rfl⟩
      · exact ⟨0, by decide, 1, by decide, rfl⟩
      · exact ⟨1, by decide, 0, by decide, rfl⟩
    · simp at q
      rcases q with rfl | rfl | rfl <;> decide
theorem evR_told : raF 0 [] evR 66729000 66730000 = 0 ∧ raL 0 [] evR 66729000 66730000 = rgR := by
  have h0 : raF 0 [] evR 66729000 66730000 = 0 := by
    unfold raF
    rw [if_neg (fun q => q (by decide)), evR_list]
    rfl
  exact ⟨h0, by unfold raL; rw [if_pos h0, evR_list]⟩
theorem rg_getD {l : List Rg} {k : Nat} (h : k < l.length) : l.getD k (0, 0, 0, 0) = l[k] := by rw [List.getD_eq_getElem?_getD, List.getElem?_eq_getElem h]; rfl
theorem rg_mem {l : List Rg} {k : Nat} (h : k < l.length) : l.getD k (0, 0, 0, 0) ∈ l := by rw [rg_getD h]; exact List.getElem_mem h
theorem ra_good {a : Int} {l : List (Int × Int)} {e : Evt} {fr t : Int} (h : raF a l e fr t = 0) : (evF e = 0 ∧ Zo.zf a l = 0) ∧ strB fr t = true ∧ raL a l e fr t = rgS a l e fr t ∧ (rgS a l e fr t).length ≤ 400 := by
  have h' := h
  unfold raF at h
  split at h
  · rename_i q; exact absurd h q
  · rename_i q
    split at h
    · cases h
    · rename_i q2
      obtain ⟨g1, g2⟩ := tc_good (Decidable.byContradiction q)
      exact ⟨ez_good g1, g2, if_pos h', by omega⟩
theorem ra_yes {a : Int} {l : List (Int × Int)} {e : Evt} {fr t : Int} (h : evF e = 0) (hz : Zo.zf a l = 0) (hs : strB fr t = true) (hl : (rgS a l e fr t).length ≤ 400) : raF a l e fr t = 0 ∧ raL a l e fr t = rgS a l e fr t := by
  have tc : tcF a l e fr t = 0 := by
    unfold tcF
    rw [if_neg (fun z => z (by unfold ezF; rw [if_neg (fun z => z h)]; exact hz)), if_neg (by rw [hs]; decide)]
  have h0 : raF a l e fr t = 0 := by
    unfold raF
    rw [if_neg (fun z => z tc), if_neg (by omega)]
  exact ⟨h0, if_pos h0⟩
/-- In two parts: what it is in all. -/
theorem rg_two {a : Int} {l : List (Int × Int)} {e : Evt} {fr c t : Int} (h : evF e = 0) (hz : Zo.zf a l = 0) (f : fr ≤ c) (g : c ≤ t) : rgS a l e fr c ++ rgS a l e c t = rgS a l e fr t := by
  refine rg_ext ?_ (rgS_rise h) (fun y => ?_)
  · rw [List.pairwise_append]
    refine ⟨rgS_rise h, rgS_rise h, fun x hx y hy => ?_⟩
    obtain ⟨_, _, _, _, h1⟩ := (rgS_mem h hz).1 hx
    obtain ⟨_, _, _, h2, _⟩ := (rgS_mem h hz).1 hy
    unfold ltR
    omega
  · rw [List.mem_append, rgS_mem h hz, rgS_mem h hz, rgS_mem h hz]
    unfold isRg
    constructor
    · rintro (⟨y', h1, h2, h3, h4⟩ | ⟨y', h1, h2, h3, h4⟩)
      · exact ⟨y', h1, h2, by omega, by omega⟩
      · exact ⟨y', h1, h2, by omega, by omega⟩
    · rintro ⟨y', h1, h2, h3, h4⟩
      by_cases q : y.1 < c
      · exact Or.inl ⟨y', h1, h2, h3, q⟩
      · exact Or.inr ⟨y', h1, h2, by omega, h4⟩
/-- What is known of one ring: its alarm, its turn, its Time. -/
def KnO (a : Int) (l : List (Int × Int)) (e : Evt) (fr t : Int) (r : Rg) : Prop :=
  ∃ (k u : Nat) (b : Int), k < e.alm.length ∧ r.2.2.1 = k ∧ r.2.2.2 = u ∧ (u : Int) ≤ (e.alm.getD k (0, false, 0, 0)).2.2.1 ∧ u ≤ 5 ∧ r.1 = b + bhd e.len (e.alm.getD k (0, false, 0, 0)) + u * (e.alm.getD k (0, false, 0, 0)).2.2.2 ∧ (1 ≤ b ∧ b ≤ 157785119) ∧ (fr ≤ r.1 ∧ r.1 < t) ∧ (tbF a l e b (b + 1) = 0 → (tbL a l e b (b + 1)).any (fun y => y.1 == r.2.1) = true)
theorem kno_r {a : Int} {l : List (Int × Int)} {e : Evt} {fr t : Int} {r : Rg} (h : evF e = 0) (hz : Zo.zf a l = 0) (hr : isRg a l e fr t r) : KnO a l e fr t r := by
  obtain ⟨y, ⟨y1, y2⟩, ⟨k, hk, u, hu, rfl⟩, hi⟩ := hr
  have ai := alF_in ((evF_alm h).2 _ (alm_mem hk))
  have yt := isTm_time (fr := y.2.1) (t := y.2.1 + 1) (show isTm a l e y.2.1 (y.2.1 + 1) y from ⟨y1, y2, by omega, by omega⟩)
  refine ⟨k, u, y.2.1, hk, rfl, rfl, by omega, by omega, rfl, yt, hi, fun hb => ?_⟩
  obtain ⟨_, hs, el, _⟩ := tb_good hb
  rw [el, List.any_eq_true]
  exact ⟨y, (tmL_mem h hz (str_ok hs)).2 ⟨y1, y2, by omega, by omega⟩, by simp [rg1]⟩
/-- What is known of the rings. -/
def KnR (a : Int) (l : List (Int × Int)) (e : Evt) (fr c t : Int) (L : List Rg) : Prop :=
  (∀ k, k < L.length → KnO a l e fr t (L.getD k (0, 0, 0, 0))) ∧ (∀ k, k + 1 < L.length → cmR e.name e.name (L.getD k (0, 0, 0, 0)) (L.getD (k + 1) (0, 0, 0, 0)) < 0) ∧
  (fr ≤ c → c ≤ t → raF a l e fr c = 0 ∧ raF a l e c t = 0 ∧ raL a l e fr c ++ raL a l e c t = L) ∧ L.length ≤ 400 ∧ (1 ≤ fr ∧ t ≤ 157785119) ∧ (0 ≤ e.len ∧ e.len ≤ 100000) ∧ e.alm.length ≤ 4 ∧ ∀ x ∈ e.alm, alF x = 0
theorem knr_of {a : Int} {l : List (Int × Int)} {e : Evt} {fr c t : Int} (h : raF a l e fr t = 0) : KnR a l e fr c t (raL a l e fr t) := by
  obtain ⟨⟨e0, z0⟩, s0, el, ll⟩ := ra_good h
  rw [el]
  obtain ⟨⟨f1, t1⟩, ft, d1⟩ := strB_ends s0
  refine ⟨fun k hk => kno_r e0 z0 ((rgS_mem e0 z0).1 (rg_mem hk)), fun k hk => ?_, fun h1 h2 => ?_, ll, ⟨f1, t1⟩, (evF_lens e0).2.2.2.2.2, evF_alm e0⟩
  · have := List.pairwise_iff_getElem.1 (rgS_rise (a := a) (l := l) (fr := fr) (t := t) e0) k (k + 1) (by omega) hk (by omega)
    rw [rg_getD hk, rg_getD (by omega)]
    exact (cmR_n _ _ _).2 this
  · have s1 : strB fr c = true := strB_yes f1 h1 (by omega) (by omega)
    have s2 : strB c t = true := strB_yes (by omega) h2 t1 (by omega)
    have tw := rg_two (a := a) (l := l) e0 z0 h1 h2
    have ln := congrArg List.length tw
    rw [List.length_append] at ln
    obtain ⟨p1, p2⟩ := ra_yes e0 z0 s1 (by omega)
    obtain ⟨q1, q2⟩ := ra_yes e0 z0 s2 (by omega)
    exact ⟨p1, q1, by rw [p2, q2]; exact tw⟩
end Go.Proofs.YtdiijpjfkgnjkafGreatDoor
namespace Go.Proofs.YtdiijpjfkgnjkafGreatDoor
open Go.RowKit Cal Txt

/-- A ring's cells in a row. -/
def RCl (nm : ByteArray) (w : World) (b o : Nat) (x : Rg) : Prop := w.cell? ⟨b, o, none⟩ = some (.int .i64 x.1) ∧ w.cell? ⟨b, o + 1, none⟩ = some (.string nm) ∧ w.cell? ⟨b, o + 2, none⟩ = some (.int .i64 x.2.1) ∧ w.cell? ⟨b, o + 3, none⟩ = some (.int .i64 x.2.2.1) ∧ w.cell? ⟨b, o + 4, none⟩ = some (.int .i64 x.2.2.2)
theorem RCl.on {nm : ByteArray} {w w' : World} {b o : Nat} {x : Rg} (h : RCl nm w b o x) (q : Below w.heap.size w w') : RCl nm w' b o x := by
  have l := ecell_in h.1
  exact ⟨(q.cell (p := ⟨b, o, none⟩) l).trans h.1, (q.cell (p := ⟨b, o + 1, none⟩) l).trans h.2.1, (q.cell (p := ⟨b, o + 2, none⟩) l).trans h.2.2.1, (q.cell (p := ⟨b, o + 3, none⟩) l).trans h.2.2.2.1, (q.cell (p := ⟨b, o + 4, none⟩) l).trans h.2.2.2.2⟩
theorem rowK_at {nm : ByteArray} {w : World} {v : Value} {l : List Rg} (h : RowK (encR nm) w v l) : ∃ a cap, v = .slice a l.length cap ∧ (l = [] ∨ ∃ b off, a = some ⟨b, off, none⟩ ∧ ∀ i, i < l.length → RCl nm w b (off + i * 5) (l.getD i (0, 0, 0, 0))) := by
  obtain ⟨a, cap, e, hc⟩ := h
  refine ⟨a, cap, e, ?_⟩
  rcases hc with hc | ⟨b, off, ea, hc⟩
  · exact Or.inl hc
  · refine Or.inr ⟨b, off, ea, fun i hi => ?_⟩
    have at_ : ∀ c v, c < 5 → (encR nm (l.getD i (0, 0, 0, 0)))[c]? = some v → w.cell? ⟨b, off + i * 5 + c, none⟩ = some v := fun c v h5 hv => by
      have q := flat_at (encR nm) 5 (fun _ => rfl) l i c hi h5
      have q2 : (l.flatMap (encR nm))[i * 5 + c]? = some v := q.trans hv
      have := hc (i * 5 + c) v q2
      rwa [← Nat.add_assoc] at this
    exact ⟨at_ 0 _ (by decide) rfl, at_ 1 _ (by decide) rfl, at_ 2 _ (by decide) rfl, at_ 3 _ (by decide) rfl, at_ 4 _ (by decide) rfl⟩
end Go.Proofs.YtdiijpjfkgnjkafGreatDoor
