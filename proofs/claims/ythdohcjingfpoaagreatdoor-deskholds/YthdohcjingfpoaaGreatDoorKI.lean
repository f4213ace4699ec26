/-
  What is proved here: plain facts on a desk that law DeskHolds asks: two ticks tell what one tells; the desk that is asked first.
  What is proved here: two desks that a law plays with beside one another.
  What is proved here: the rings of a row, one by one; what is kept where a block is as it was.
  What is proved here: what chimesame's Rings answers at two rows that read the same (a contract over the translation).
  What is proved here: law chimelaw3.DeskHolds answers true (a contract over the translation).
-/
import Derived.Test.YthdohcjingfpoaaGreatDoorKH
import Derived.Test.YthdohcjingfpoaaGreatDoorTA
import Derived.Test.YthdohcjingfpoaaGreatDoorQB
import Derived.Test.YthdohcjingfpoaaGreatDoorPQ
import Derived.Test.YthdohcjingfpoaaGreatDoorRZ
namespace Go.Proofs.YthdohcjingfpoaaGreatDoor.Dk
open Go.RowKit Qu Go.Maps Zo

variable {D : Ds}
theorem fsF_zero : ∀ {l : List Int}, fsF l = 0 → ∀ x ∈ l, x = 0
  | [], _, _, h => by cases h
  | y :: r, h, x, hx => by
    unfold fsF at h
    split at h
    · rename_i q
      rcases List.mem_cons.1 hx with z | z
      · rw [z]; exact q
      · exact fsF_zero h x z
    · rename_i q; exact absurd h q
theorem duF_all {t : Int} (h : duF D t = 0) {e : Evt} (he : e ∈ D.ev) : rgF D t e = 0 := fsF_zero h _ (List.mem_map_of_mem he)
theorem rgF_good {t : Int} {e : Evt} (h : rgF D t e = 0) : rgR D t e = (rgS D.a D.l e (D.now + 1) (t + 1)).map (toQ e.name) ∧ evF e = 0 ∧ zf D.a D.l = 0 := by
  unfold rgF tlF at h
  split at h
  · rename_i q
    obtain ⟨g1, _⟩ := tc_good q
    obtain ⟨g2, g3⟩ := ez_good g1
    refine ⟨?_, g2, g3⟩
    unfold rgR tlL
    rw [if_pos q]
    unfold waL
    rw [if_pos h]
  · rename_i q; exact absurd h q
theorem rgR_iff {t : Int} {e : Evt} (h : rgF D t e = 0) {z : Rq} : z ∈ rgR D t e ↔ ∃ x, isRg D.a D.l e (D.now + 1) (t + 1) x ∧ z = toQ e.name x := by
  obtain ⟨g1, g2, g3⟩ := rgF_good h
  rw [g1, List.mem_map]
  constructor
  · rintro ⟨x, hx, rfl⟩
    exact ⟨x, (rgS_mem g2 g3).1 hx, rfl⟩
  · rintro ⟨x, hx, rfl⟩
    exact ⟨x, (rgS_mem g2 g3).2 hx, rfl⟩
theorem isRg_two {a : Int} {l : List (Int × Int)} {e : Evt} {fr c t : Int} {x : Rg} (h1 : fr ≤ c) (h2 : c ≤ t) : isRg a l e fr t x ↔ isRg a l e fr c x ∨ isRg a l e c t x := by
  constructor
  · rintro ⟨y, p, q, r1, r2⟩
    by_cases k : x.1 < c
    · exact Or.inl ⟨y, p, q, r1, k⟩
    · exact Or.inr ⟨y, p, q, by omega, r2⟩
  · rintro (⟨y, p, q, r1, r2⟩ | ⟨y, p, q, r1, r2⟩)
    · exact ⟨y, p, q, r1, by omega⟩
    · exact ⟨y, p, q, by omega, r2⟩
/-- Two ticks tell what one does. -/
theorem two_ticks {c t : Int} (g : Gd D) (hz : ¬ D.now = 0) (hs : D.snz = []) (h1 : ticF D c = 0) (h2 : ticF (D.tick c) t = 0) (h3 : ticF D t = 0) :
    ticL D c ++ ticL (D.tick c) t = ticL D t ∧ ((D.tick c).tick t).rung = (D.tick t).rung ∧ ((D.tick c).tick t).rung = D.rung ++ ticL D t ∧ ((D.tick c).tick t).ev = D.ev := by
  obtain ⟨e1, l1, u1, n1, _⟩ := tick_two h1 hz
  have gd := g.tick c
  have hn : (D.tick c).now = c := by rw [e1]
  have n0 := g.n0
  have hz2 : ¬ (D.tick c).now = 0 := by rw [hn]; omega
  obtain ⟨e2, l2, u2, n2, _⟩ := tick_two h2 hz2
  obtain ⟨e3, l3, u3, n3, _⟩ := tick_two h3 hz
  rw [hn] at n2
  have hs2 : (D.tick c).snz = [] := by rw [e1, hs]; rfl
  have hev : (D.tick c).ev = D.ev := by rw [e1]
  have ha : (D.tick c).a = D.a := by rw [e1]
  have hl : (D.tick c).l = D.l := by rw [e1]
  have key : duL D c ++ duL (D.tick c) t = duL D t := by
    refine rs_ext (List.pairwise_append.2 ⟨duL_rs D c, duL_rs _ t, fun x hx y hy => oc_at ?_⟩) (duL_rs D t) (fun z => ?_)
    · have := (duL_at g hx).2
      have := (duL_at gd hy).1
      rw [hn] at this
      omega
    · rw [List.mem_append, duL_mem u1, duL_mem u2, duL_mem u3, hs, hs2, hev]
      have nil : ∀ k, ¬ z ∈ dueQ [] k := fun k q => by simp [dueQ] at q
      simp only [nil, false_or]
      have step : ∀ e, e ∈ D.ev → (z ∈ rgR D t e ↔ z ∈ rgR D c e ∨ z ∈ rgR (D.tick c) t e) := fun e he => by
        rw [rgR_iff (duF_all u3 he), rgR_iff (duF_all u1 he), rgR_iff (duF_all u2 (by rw [hev]; exact he)), ha, hl, hn]
        constructor
        · rintro ⟨x, hx, q⟩
          rcases (isRg_two (c := c + 1) (by omega) (by omega)).1 hx with y | y
          · exact Or.inl ⟨x, y, q⟩
          · exact Or.inr ⟨x, y, q⟩
        · rintro (⟨x, hx, q⟩ | ⟨x, hx, q⟩)
          · exact ⟨x, (isRg_two (c := c + 1) (by omega) (by omega)).2 (Or.inl hx), q⟩
          · exact ⟨x, (isRg_two (c := c + 1) (by omega) (by omega)).2 (Or.inr hx), q⟩
      constructor
      · rintro (⟨e, he, q⟩ | ⟨e, he, q⟩)
        · exact ⟨e, he, (step e he).2 (Or.inl q)⟩
        · exact ⟨e, he, (step e he).2 (Or.inr q)⟩
      · rintro ⟨e, he, q⟩
        rcases (step e he).1 q with y | y
        · exact Or.inl ⟨e, he, y⟩
        · exact Or.inr ⟨e, he, y⟩
  have r1 : (D.tick c).rung = D.rung ++ duL D c := by rw [e1]
  have r2 : ((D.tick c).tick t).rung = D.rung ++ duL D t := by
    rw [e2]
    show (D.tick c).rung ++ duL (D.tick c) t = _
    rw [r1, List.append_assoc, key]
  refine ⟨by rw [l1, l2, l3, key], by rw [r2, e3], by rw [r2, l3], by rw [e2]; exact hev⟩
/-- What is told is of events that there are, and in time. -/
theorem told_of {t : Int} (g : Gd D) (hs : D.snz = []) {z : Rq} (hz : z ∈ ticL D t) : D.now < z.1 ∧ z.1 ≤ t ∧ ∃ e ∈ D.ev, e.name = z.2.1 := by
  unfold ticL at hz
  split at hz
  · rename_i q
    have u := (tick_two q.1 q.2).2.2.1
    obtain ⟨a1, a2⟩ := duL_at g hz
    rcases (duL_mem u).1 hz with y | ⟨e, he, y⟩
    · rw [hs] at y; simp [dueQ] at y
    · exact ⟨a1, a2, e, he, (rgR_mem y).2.2.symm⟩
  · cases hz
theorem told_rs (D : Ds) (t : Int) : Rs (ticL D t) := by
  unfold ticL
  split
  · exact duL_rs D t
  · exact List.Pairwise.nil
/-- The event of the desk that is asked first. -/
abbrev evH : Evt := ⟨⟨#[97]⟩, ⟨#[]⟩, 1000, 0, false, noRl, [], [], [], [(-5, false, 0, 0)]⟩
theorem evH_fault : evF evH = 0 := by decide
theorem evH_list : rgS 0 [] evH 901 996 = [(995, 1000, 0, 0)] := by
  have hz : zf 0 [] = 0 := by decide
  have re : ∀ x, rea evH x = some x := fun x => rfl
  have ie : ∀ x, isE evH x ↔ x = 1000 := fun x => by
    unfold isE isS
    have r0 : evH.rep = false := rfl
    have m0 : evH.more = [] := rfl
    have n0 : evH.nots = [] := rfl
    have s0 : evH.start = 1000 := rfl
    rw [r0, m0, n0, s0]
    simp
  refine rg_ext (rgS_rise evH_fault) (by simp) (fun x => ?_)
  rw [rgS_mem evH_fault hz]
  unfold isRg
  simp only [ie, re]
  constructor
  · rintro ⟨y, ⟨y1, r, hr, ht⟩, ⟨k, hk, u, hu, rfl⟩, _⟩
    obtain ⟨_, _, q3⟩ := tim_nil.1 ht
    obtain ⟨ya, yb, yc⟩ := y
    simp only [Prod.mk.injEq, true_and] at q3 y1
    have hr' : ya = r := by simpa using hr
    have hk2 : k < 1 := hk
    have e1 : yb = 1000 := by omega
    subst y1 e1
    obtain rfl : k = 0 := by omega
    have hu2 : u < 1 := hu
    obtain rfl : u = 0 := by omega
    simp [rg1, bhd]
  · intro q
    have tm : tim 0 [] evH (1000, 1000) = some (1000, 1000, 1000) := tim_nil.2 ⟨by decide, by decide, rfl⟩
    refine ⟨(1000, 1000, 1000), ⟨rfl, 1000, rfl, tm⟩, ?_, ?_⟩
    · simp at q
      subst q
      exact ⟨0, by decide, 0, by decide, rfl⟩
    · simp at q
      subst q
      decide
abbrev deskH : Ds := ⟨0, [], [evH], 900, [], []⟩
abbrev rngH : Rq := (995, ⟨#[97]⟩, 1000, 0, 0)
theorem fact_put : putF (newD 0 []) evH = 0 := by
  unfold putF
  rw [if_pos evH_fault]
  rfl
theorem fact_one : ticF ((newD 0 []).put evH) 900 = 0 ∧ ((newD 0 []).put evH).tick 900 = deskH := by
  rw [put_one fact_put]
  have h : ticF ⟨0, [], [ownE evH], 0, [], []⟩ 900 = 0 := by
    unfold ticF
    rw [if_pos (by decide), if_pos rfl]
  exact ⟨h, (tick_one h rfl).1⟩
theorem fact_two : ticF deskH 995 = 0 ∧ ticL deskH 995 = [rngH] ∧ (deskH.tick 995).rung = [rngH] := by
  have tc : tcF 0 [] evH 901 995 = 0 := by decide
  have rf : rgF deskH 995 evH = 0 := by
    show tlF 0 [] evH 901 995 = 0
    unfold tlF
    rw [if_pos tc]
    unfold waF
    show (if 400 < (rgS 0 [] evH 901 996).length then (4 : Int) else 0) = 0
    rw [evH_list]
    rfl
  have rr : rgR deskH 995 evH = [rngH] := by
    rw [(rgF_good rf).1]
    show (rgS 0 [] evH 901 996).map (toQ _) = _
    rw [evH_list]
    rfl
  have df : duF deskH 995 = 0 := by
    show fsF [rgF deskH 995 evH] = 0
    rw [rf]
    rfl
  have dl : duL deskH 995 = [rngH] := by
    unfold duL
    rw [if_pos df]
    show srtQ (dueQ [] 995 ++ [evH].flatMap (rgR deskH 995)) = _
    rw [List.flatMap_cons, List.flatMap_nil, List.append_nil, rr]
    exact srtQ_same (List.pairwise_singleton _ _)
  have h : ticF deskH 995 = 0 := by
    unfold ticF
    rw [if_pos (by decide), if_neg (by decide), if_pos df, dl]
    rfl
  obtain ⟨e1, e2, _⟩ := tick_two h (by decide)
  exact ⟨h, by rw [e2, dl], by rw [e1]; show [] ++ duL deskH 995 = _; rw [dl]; rfl⟩
end Go.Proofs.YthdohcjingfpoaaGreatDoor.Dk
namespace Go.Proofs.YthdohcjingfpoaaGreatDoor.Dk
open Go.RowKit Qu Go.Maps Zo

/-- Two desks that were made behind W1, beside blocks that they don't write into. -/
def Wd2 (W1 W : World) (a : Nat) (D : Ds) (b : Nat) (E : Ds) (K : Nat → Prop) : Prop := ∃ R T, Dm W a D R ∧ Dm W b E T ∧ Below W1.heap.size W1 W ∧ (∀ k, Fd a R k ∨ R.S k → W1.heap.size ≤ k) ∧ (∀ k, Fd b T k ∨ T.S k → W1.heap.size ≤ k) ∧ Apd a R b T ∧ Apd b T a R ∧ ∀ k, K k → k < W.heap.size ∧ ¬ (Fd a R k ∨ R.S k) ∧ ¬ (Fd b T k ∨ T.S k)
variable {W1 W W' : World} {a b : Nat} {D E : Ds} {K K' : Nat → Prop}
theorem Wd2.swap (h : Wd2 W1 W a D b E K) : Wd2 W1 W b E a D K := by
  obtain ⟨R, T, h1, h2, h3, h4, h5, h6, h7, h8⟩ := h
  exact ⟨T, R, h2, h1, h3, h5, h4, h7, h6, fun k hk => ⟨(h8 k hk).1, (h8 k hk).2.2, (h8 k hk).2.1⟩⟩
theorem Wd2.imp (h : Wd2 W1 W a D b E K) (i : ∀ k, K' k → K k) : Wd2 W1 W a D b E K' := by
  obtain ⟨R, T, h1, h2, h3, h4, h5, h6, h7, h8⟩ := h
  exact ⟨R, T, h1, h2, h3, h4, h5, h6, h7, fun k hk => h8 k (i k hk)⟩
theorem Wd2.below (h : Wd2 W1 W a D b E K) : Below W1.heap.size W1 W := by
  obtain ⟨_, _, _, _, h3, _⟩ := h
  exact h3
theorem Wd2.klt (h : Wd2 W1 W a D b E K) {k : Nat} (hk : K k) : k < W.heap.size := by
  obtain ⟨_, _, _, _, _, _, _, _, _, h8⟩ := h
  exact (h8 k hk).1
theorem Wd2.lt (h : Wd2 W1 W a D b E K) : a < W.heap.size := by
  obtain ⟨_, _, h1, _⟩ := h
  exact h1.lt
theorem Wd2.onB (h : Wd2 W1 W a D b E K) (q : Below W.heap.size W W') (i : ∀ k, K' k → K k ∨ (W.heap.size ≤ k ∧ k < W'.heap.size)) : Wd2 W1 W' a D b E K' := by
  obtain ⟨R, T, h1, h2, h3, h4, h5, h6, h7, h8⟩ := h
  refine ⟨R, T, h1.onB q, h2.onB q, h3.trans (q.mono h3.size), h4, h5, h6, h7, fun k hk => ?_⟩
  rcases i k hk with z | ⟨z1, z2⟩
  · exact ⟨Nat.lt_of_lt_of_le (h8 k z).1 q.size, (h8 k z).2⟩
  · refine ⟨z2, fun e => ?_, fun e => ?_⟩
    · rcases e with e | e
      · have := h1.flt e; omega
      · have := (h1.sin k e).1; omega
    · rcases e with e | e
      · have := h2.flt e; omega
      · have := (h2.sin k e).1; omega
/-- A kept block is written into. -/
theorem Wd2.grown {g : Nat} (h : Wd2 W1 W a D b E K) (hg : W.grownBy W' (some g)) (hK : K g) (h1 : W1.heap.size ≤ g) (i : ∀ k, K' k → K k ∨ (W.heap.size ≤ k ∧ k < W'.heap.size)) : Wd2 W1 W' a D b E K' := by
  obtain ⟨R, T, d1, d2, h3, h4, h5, h6, h7, h8⟩ := h
  have bk : ∀ k, k < W.heap.size → k ≠ g → W'.heap[k]? = W.heap[k]? := fun k hk hn => hg.block k hk (fun e => hn (by injection e))
  refine ⟨R, T, d1.on hg.size (fun k hk => ?_), d2.on hg.size (fun k hk => ?_), ⟨hg.os.trans h3.os, hg.tape.trans h3.tape, hg.output.trans h3.output, Nat.le_trans h3.size hg.size, fun k hk => (bk k (Nat.lt_of_lt_of_le hk h3.size) (by omega)).trans (h3.block k hk)⟩, h4, h5, h6, h7, fun k hk => ?_⟩
  · refine bk k ?_ (fun e => (h8 g hK).2.1 (e ▸ hk))
    rcases hk with e | e
    · exact d1.flt e
    · exact (d1.sin k e).1
  · refine bk k ?_ (fun e => (h8 g hK).2.2 (e ▸ hk))
    rcases hk with e | e
    · exact d2.flt e
    · exact (d2.sin k e).1
  · rcases i k hk with z | ⟨z1, z2⟩
    · exact ⟨Nat.lt_of_lt_of_le (h8 k z).1 hg.size, (h8 k z).2⟩
    · refine ⟨z2, fun e => ?_, fun e => ?_⟩
      · rcases e with e | e
        · have := d1.flt e; omega
        · have := (d1.sin k e).1; omega
      · rcases e with e | e
        · have := d2.flt e; omega
        · have := (d2.sin k e).1; omega
theorem wd_putK (e : Evt) (s : Evs) (h : Wd W1 W b D K) (g : Gd D) (hT : Tab W1) (hv : Sup K W (fun X => EvB X e s)) : Calls Tryz.prog 8 #[.pointer (some ⟨b, 0, none⟩), .agg (askC 1 e s noN zq 0)] W fun x W' => ∃ u c, x = .returned (.tuple #[.slice u 0 c, fault (putF D e)]) ∧ Wd W1 W' b (D.put e) (fun _ => False) := by
  obtain ⟨R, h1, h2, h3, h4⟩ := h
  have hd := do_any (S0 := K) 1 e s noN zq 0 h1 g (hT.below h2) hv (fun k hk => ⟨(h4 k hk).1, fun z => (h4 k hk).2 (Or.inl z)⟩) noN_len
  rw [show D.step 1 e noN zq 0 = D.put e from if_pos rfl, show stF D 1 e noN zq 0 = putF D e from if_pos rfl, show stL D 1 0 = [] from if_neg (by decide)] at hd
  refine hd.mono (fun x W' ⟨u, hx, ho, R', hd, hk, _⟩ => ?_)
  obtain ⟨ua, c, rfl, _⟩ := ho.rd
  exact ⟨ua, c, hx, R', hd, h2.trans (hk.below h2.size (fun k z => h3 k (Or.inl z))), fun k z => by
    rcases hk.own k z with y | y
    · exact h3 k y
    · exact Nat.le_trans h2.size y, fun _ z => z.elim⟩
/-- What a call on the first leaves. -/
def WdA2 (W1 W : World) (a : Nat) (D' : Ds) (b : Nat) (E : Ds) (f : Int) (L : List Rq) (K : Nat → Prop) (x : Ending) (W' : World) : Prop := ∃ u c, x = .returned (.tuple #[.slice u L.length c, fault f]) ∧ Ow W' W1.heap.size (.slice u L.length c) L ∧ Wd2 W1 W' a D' b E (fun k => K k ∨ (Value.slice u L.length c).ownBlock = some k) ∧ (∀ k, K k → W'.heap[k]? = W.heap[k]?) ∧ ∀ g, (Value.slice u L.length c).ownBlock = some g → W.heap.size ≤ g
theorem wd2_do (wh : Int) (e : Evt) (s : Evs) (nm : ByteArray) (r : Rq) (n : Int) (h : Wd2 W1 W a D b E K) (g : Gd D) (hT : Tab W1) (hv : EvB W1 e s) (hn : nm.size ≤ maxLen) :
    Calls Tryz.prog 8 #[.pointer (some ⟨a, 0, none⟩), .agg (askC wh e s nm r n)] W (WdA2 W1 W a (D.step wh e nm r n) b E (stF D wh e nm r n) (stL D wh n) K) := by
  obtain ⟨R, T, d1, d2, h3, h4, h5, h6, h7, h8⟩ := h
  refine (do_any (S0 := fun k => k < W1.heap.size) wh e s nm r n d1 g (hT.below h3) (fun X hs hk => ?_) (fun k hk => ⟨Nat.lt_of_lt_of_le hk h3.size, fun z => by have := h4 k (Or.inl z); omega⟩) hn).mono (fun x W' ⟨u, hx, ho, R', hd, hk, hu⟩ => ?_)
  · have := hv.on (w' := { X with os := W1.os, tape := W1.tape, output := W1.output }) ⟨rfl, rfl, rfl, Nat.le_trans h3.size hs, fun k hk2 => (hk k hk2).trans (h3.block k hk2)⟩
    exact this
  · obtain ⟨ua, c, rfl, _⟩ := ho.rd
    have t5 : ∀ k, Fd b T k ∨ T.S k → k < W.heap.size := fun k e => by
      rcases e with e | e
      · exact d2.flt e
      · exact (d2.sin k e).1
    refine ⟨ua, c, hx, own_lower ho h3.size, ⟨R', T, hd, d2.onK hk h6, h3.trans (hk.below h3.size (fun k z => h4 k (Or.inl z))), fun k z => ?_, h5, h6.onK d2 hk, h7.onK2 d2 hk, fun k z => ?_⟩, (fun k z => hk.block k (h8 k z).1 (fun e => (h8 k z).2.1 (Or.inl e))), fun g hg => (ho.lt g hg).1⟩
    · rcases hk.own k z with y | y
      · exact h4 k y
      · exact Nat.le_trans h3.size y
    · rcases z with z | z
      · refine ⟨Nat.lt_of_lt_of_le (h8 k z).1 hk.size, fun y => ?_, (h8 k z).2.2⟩
        rcases hk.own k y with q | q
        · exact (h8 k z).2.1 q
        · have := (h8 k z).1
          omega
      · refine ⟨(ho.lt k z).2, hu k z, fun y => ?_⟩
        have := t5 k y
        have := (ho.lt k z).1
        omega
theorem wd2_put (e : Evt) (s : Evs) (h : Wd2 W1 W a D b E K) (g : Gd D) (hT : Tab W1) (hv : EvB W1 e s) : Calls Tryz.prog 8 #[.pointer (some ⟨a, 0, none⟩), .agg (askC 1 e s noN zq 0)] W (WdA2 W1 W a (D.put e) b E (putF D e) [] K) := by
  have := wd2_do 1 e s noN zq 0 h g hT hv noN_len
  rwa [show D.step 1 e noN zq 0 = D.put e from if_pos rfl, show stF D 1 e noN zq 0 = putF D e from if_pos rfl, show stL D 1 0 = [] from if_neg (by decide)] at this
theorem wd2_tick (n : Int) (h : Wd2 W1 W a D b E K) (g : Gd D) (hT : Tab W1) : Calls Tryz.prog 8 #[.pointer (some ⟨a, 0, none⟩), .agg (askC 3 noE noS noN zq n)] W (WdA2 W1 W a (D.tick n) b E (ticF D n) (ticL D n) K) := by
  have := wd2_do 3 noE noS noN zq n h g hT (noB W1) noN_len
  rwa [show D.step 3 noE noN zq n = D.tick n by unfold Ds.step; rw [if_neg (by decide), if_neg (by decide), if_pos rfl], show stF D 3 noE noN zq n = ticF D n by unfold stF; rw [if_neg (by decide), if_neg (by decide), if_pos rfl], show stL D 3 n = ticL D n from if_pos rfl] at this
def WdR2 (W1 W : World) (a : Nat) (D : Ds) (b : Nat) (E : Ds) (L : List Rq) (K : Nat → Prop) (x : Ending) (W' : World) : Prop := ∃ u c, x = .returned (.slice u L.length c) ∧ Ow W' W1.heap.size (.slice u L.length c) L ∧ Wd2 W1 W' a D b E (fun k => K k ∨ (Value.slice u L.length c).ownBlock = some k) ∧ Below W.heap.size W W'
theorem wd2_rung (h : Wd2 W1 W a D b E K) (g : Gd D) : Calls Tryz.prog 9 #[.pointer (some ⟨a, 0, none⟩)] W (WdR2 W1 W a D b E D.rung K) := by
  have h0 := h
  obtain ⟨R, T, d1, _, h3, _⟩ := h
  refine (drung_any d1 (by have := g.nr; omega)).mono (fun x W' ⟨u, hx, ho, hb⟩ => ?_)
  obtain ⟨ua, c, rfl, _⟩ := ho.rd
  exact ⟨ua, c, hx, own_lower ho h3.size, h0.onB hb (fun k z => by
    rcases z with z | z
    · exact Or.inl z
    · exact Or.inr (ho.lt k z)), hb⟩
theorem wd2_names (h : Wd2 W1 W a D b E K) (g : Gd D) : Calls Tryz.prog 12 #[.pointer (some ⟨a, 0, none⟩)] W fun x W' => ∃ u c, x = .returned (.slice u D.ev.length c) ∧ Wd2 W1 W' a D b E K ∧ Below W.heap.size W W' ∧ (D.ev = [] ∨ ∃ g cur, u = some ⟨g, 0, none⟩ ∧ W'.heap[g]? = some (.cells cur 9 (0, 0)) ∧ ∀ X : World, X.heap[g]? = W'.heap[g]? → ∀ i, i < D.ev.length → X.cell? ⟨g, i, none⟩ = some (.string (D.ev.getD i noE).name)) := by
  have h0 := h
  obtain ⟨R, T, d1, _, h3, _⟩ := h
  refine (dnames_any d1 g.srt (by have := g.nev; omega)).mono (fun x W' ⟨u, hx, ho, hb⟩ => ?_)
  obtain ⟨ua, c, rfl, hr⟩ := nm_row ho
  exact ⟨ua, c, hx, h0.onB hb (fun k z => Or.inl z), hb, hr⟩
/-- Another desk beside one. -/
theorem wd2_new (x : Int) (l : List (Int × Int)) (v : Value) (h : Wd W1 W a D K) (hv : ZoneIn W v x l) (hl : l.length ≤ 1000000) (hz : zf x l = 0) :
    Calls Tryz.prog 7 #[v] W fun y W' => ∃ b, y = .returned (.tuple #[.pointer (some ⟨b, 0, none⟩), .nilIface]) ∧ Wd2 W1 W' a D b (newD x l) K ∧ Below W.heap.size W W' := by
  obtain ⟨R, d1, h3, h4, h8⟩ := h
  refine (new_any x l v W hv hl).mono (fun y W' ⟨p, hx, hb, hp⟩ => ?_)
  rw [hz, efault_0] at hx
  have t4 : ∀ k, Fd a R k ∨ R.S k → k < W.heap.size := fun k e => by
    rcases e with e | e
    · exact d1.flt e
    · exact (d1.sin k e).1
  rcases hp with ⟨q, _⟩ | ⟨_, b, rfl, T, hd, hb2, hF⟩
  · exact absurd hz q
  · exact ⟨b, hx, ⟨R, T, d1.onB hb, hd, h3.trans (hb.mono h3.size), h4, fun k z => Nat.le_trans h3.size (hF k z), fun k z y => by have := t4 k (Or.inl z); have := hF k y; omega, fun k z y => by have := t4 k y; have := hF k (Or.inl z); omega, fun k z => ⟨Nat.lt_of_lt_of_le (h8 k z).1 hb.size, (h8 k z).2, fun y => by have := (h8 k z).1; have := hF k y; omega⟩⟩, hb⟩
end Go.Proofs.YthdohcjingfpoaaGreatDoor.Dk
namespace Go.Proofs.YthdohcjingfpoaaGreatDoor.Dk
open Go.RowKit Qu

theorem at5_of {W W' : World} {g o : Nat} {x : Rq} (h : At5 W g o x) (e : W'.heap[g]? = W.heap[g]?) : At5 W' g o x := by
  obtain ⟨a0, a1, a2, a3, a4⟩ := h
  exact ⟨(World.cell?_of_block (a := ⟨g, o, none⟩) e).trans a0, (World.cell?_of_block (a := ⟨g, o + 1, none⟩) e).trans a1, (World.cell?_of_block (a := ⟨g, o + 2, none⟩) e).trans a2, (World.cell?_of_block (a := ⟨g, o + 3, none⟩) e).trans a3, (World.cell?_of_block (a := ⟨g, o + 4, none⟩) e).trans a4⟩
theorem qbx_of {W W' : World} {g : Nat} {x : Rq} (h : QBx W g x) (e : W'.heap[g]? = W.heap[g]?) : QBx W' g x := by
  obtain ⟨a0, a1, a2, a3, a4⟩ := h
  exact ⟨(World.cell?_of_block (a := ⟨g, 0, none⟩) e).trans a0, (World.cell?_of_block (a := ⟨g, 1, none⟩) e).trans a1, (World.cell?_of_block (a := ⟨g, 2, none⟩) e).trans a2, (World.cell?_of_block (a := ⟨g, 3, none⟩) e).trans a3, (World.cell?_of_block (a := ⟨g, 4, none⟩) e).trans a4⟩
/-- A ring of a row. -/
theorem own_at {w : World} {a : Option Addr} {n c n0 : Nat} {L : List Rq} (h : Ow w n0 (.slice a n c) L) {k : Nat} (hk : k < L.length) : ∃ g, a = some ⟨g, 0, none⟩ ∧ At5 w g (k * 5) (L.getD k zq) := by
  rcases h.open with ⟨_, e2⟩ | ⟨g, cap, L', e, _⟩
  · rw [e2] at hk; simp at hk
  · injection e with e1 e2 e3
    subst e1 e2 e3
    have := Rd.at h.rd hk
    rw [Nat.zero_add] at this
    exact ⟨g, rfl, this⟩
theorem own_most {w : World} {n0 : Nat} {v : Value} {L : List Rq} (h : Ow w n0 v L) : L.length ≤ 9223372036854775807 := by
  rcases h.open with ⟨_, e2⟩ | ⟨g, cap, L', _, _, _, h1, h2, _⟩
  · rw [e2]; exact Nat.zero_le _
  · exact Nat.le_trans h1 h2
theorem own_first {w : World} {a : Option Addr} {n c n0 : Nat} {x : Rq} (h : Ow w n0 (.slice a n c) [x]) : ∃ g, a = some ⟨g, 0, none⟩ ∧ QBx w g x := by
  obtain ⟨g, e, q⟩ := own_at h (k := 0) (Nat.zero_lt_one)
  exact ⟨g, e, q⟩
end Go.Proofs.YthdohcjingfpoaaGreatDoor.Dk
namespace Go.Proofs.YthdohcjingfpoaaGreatDoor.Qu
open Go.RowKit

set_option maxRecDepth 100000 in
set_option maxHeartbeats 2000000 in
theorem sameRings (l : List Rq) (va vb : Value) (w : World) (ha : Rd w va l) (hb : Rd w vb l) (hl : l.length ≤ 2000000) :
    Calls Tryz.prog 11 #[va, vb] w fun e w' => e = .returned (.bool true) ∧ Below w.heap.size w w' := by
  obtain ⟨aa, ca, rfl, xa⟩ := id ha
  obtain ⟨ab, cb, rfl, xb⟩ := id hb
  have HA : Hid (l = [] ∨ ∃ b off, aa = some ⟨b, off, none⟩ ∧ ∀ i, i < l.length → At5 w b (off + i * 5) (l.getD i zq)) := Lib.hid (by
    rcases xa with h | ⟨b, off, rfl, h⟩
    · exact Or.inl h
    · exact Or.inr ⟨b, off, rfl, fun i hi => Rd.at (cap := ca) ⟨_, ca, rfl, Or.inr ⟨b, off, rfl, h⟩⟩ hi⟩)
  have HBb : Hid (l = [] ∨ ∃ b off, ab = some ⟨b, off, none⟩ ∧ ∀ i, i < l.length → At5 w b (off + i * 5) (l.getD i zq)) := Lib.hid (by
    rcases xb with h | ⟨b, off, rfl, h⟩
    · exact Or.inl h
    · exact Or.inr ⟨b, off, rfl, fun i hi => Rd.at (cap := cb) ⟨_, cb, rfl, Or.inr ⟨b, off, rfl, h⟩⟩ hi⟩)
  clear xa xb ha hb
  go_enter Tryz.func11, Tryz.ntmps11
  go_wp2
  go_loopw [5] (fun i wr => ∃ k : Nat, k ≤ l.length ∧ i = .int .i64 k ∧ Below w.heap.size w wr) (fun i _ => l.length - (intOf i).toNat)
  case atStart => exact ⟨0, Nat.zero_le _, rfl, Below.refl _ _⟩
  case round =>
    obtain ⟨k, hk, rfl, hB⟩ := hrel
    by_cases hlt : k < l.length
    · rcases HA.out with hc | ⟨b, off, rfl, hc⟩
      · rw [hc] at hlt; simp at hlt
      rcases HBb.out with hd | ⟨b2, off2, rfl, hd⟩
      · rw [hd] at hlt; simp at hlt
      obtain ⟨p0, p1, p2, p3, p4⟩ := (hc k hlt).on hB
      obtain ⟨q0, q1, q2, q3, q4⟩ := (hd k hlt).on hB
      generalize l.getD k zq = Y at p0 p1 p2 p3 p4 q0 q1 q2 q3 q4
      obtain ⟨x, nm, y, z, u⟩ := Y
      dsimp only at p0 p1 p2 p3 p4 q0 q1 q2 q3 q4
      clear hc hd
      go_wp2_with fail
      go_quiet (fail)
      go_wp2
      go_roundw
      case rel => exact ⟨k + 1, by omega, by go_num, below_drewN hB _⟩
      case measure => simp [intOf]; omega
    · go_wp2
      go_ret
      exact ⟨rfl, hB⟩
end Go.Proofs.YthdohcjingfpoaaGreatDoor.Qu
namespace Go.Proofs.YthdohcjingfpoaaGreatDoor.Dk
open Go.RowKit Qu Go.Maps Zo

set_option maxRecDepth 100000 in
set_option maxHeartbeats 2000000 in
/-- A zone that is refused. -/
theorem new_bad (a : Int) (l : List (Int × Int)) (v : Value) (w : World) (hv : ZoneIn w v a l) (hq : ¬ zf a l = 0) :
    Calls Tryz.prog 7 #[v] w fun y w' => y = .returned (.tuple #[.pointer none, .iface 86 (.int .i64 (zf a l))]) ∧ Below w.heap.size w w' := by
  have HV := Lib.hid (fun W (q : Below w.heap.size w W) => hv.on q)
  obtain ⟨sa, sc, rfl⟩ := hv.form
  obtain ⟨W0, hW0⟩ : ∃ W0, W0 = w.alloc (.cells #[.int .i64 a, .slice sa l.length sc] 24) := ⟨_, rfl⟩
  have b0 : Below w.heap.size w W0 := by rw [hW0]; exact below_alloc _ _
  have z0 : W0.cell? ⟨w.heap.size, 0, none⟩ = some (.int .i64 a) := by rw [hW0]; simp
  have z1 : W0.cell? ⟨w.heap.size, 1, none⟩ = some (.slice sa l.length sc) := by rw [hW0]; simp
  have gl := cell_in z0
  have KC : Hid (Calls Tryz.prog 27 #[.agg #[.int .i64 a, .slice sa l.length sc]] W0 fun x w' => x = .returned (fault (zf a l)) ∧ Below W0.heap.size W0 w') := Lib.hid (zcheck_any a l _ W0 (HV.out W0 b0))
  have HW := Lib.hid hW0
  have HB := Lib.hid b0
  rw [efault_ne hq] at KC
  generalize zf a l = F at KC ⊢
  clear hv hW0 b0 hq HV
  go_enter Tryz.func7, Tryz.ntmps7
  go_upto_region 1 with fail
  rw [← HW.out]
  go_wp2_with (go_at_call 27; refine KC.out.mono ?_; rintro x w1 ⟨rfl, hb⟩)
  go_ret2
  exact ⟨rfl, HB.out.trans (hb.mono HB.out.size)⟩
/-- The alarm of the event that is asked first. -/
theorem alm_one {W : World} {g : Nat} (h : W.heap[g]? = some (.cells #[.int .i64 (-5), .bool false, .int .i64 0, .int .i64 0] 32 (0, 0))) : Alms W (.slice (some ⟨g, 0, none⟩) 1 1) [(-5, false, 0, 0)] :=
  ⟨_, 1, rfl, Or.inr ⟨g, 0, rfl, fun i hi => by
    have hi0 : i = 0 := by simpa using hi
    subst hi0
    simp [World.cell?, h]⟩⟩
abbrev sH (g : Nat) : Evs := ⟨.slice none 0 0, .slice none 0 0, .slice none 0 0, .slice none 0 0, .slice none 0 0, .slice none 0 0, .slice none 0 0, .slice (some ⟨g, 0, none⟩) 1 1⟩
theorem supH {W : World} {g : Nat} (h : W.heap[g]? = some (.cells #[.int .i64 (-5), .bool false, .int .i64 0, .int .i64 0] 32 (0, 0))) : Sup (fun k => k = g) W (fun X => EvB X evH (sH g)) := fun X _ q =>
  ⟨nil_int X, nil_int X, nil_nth X, nil_int X, nil_int X, nil_int X, nil_nth X, alm_one ((q g rfl).trans h)⟩
theorem put_now (D : Ds) (e : Evt) : (D.put e).now = D.now ∧ (D.put e).a = D.a ∧ (D.put e).l = D.l := by
  unfold Ds.put
  split <;> exact ⟨rfl, rfl, rfl⟩
theorem at5_B {W W' : World} {g o : Nat} {x : Rq} (h : At5 W g o x) (q : Below W.heap.size W W') : At5 W' g o x := at5_of h (q.block g (cell_in h.1))
set_option maxRecDepth 100000 in
set_option maxHeartbeats 8000000 in
theorem dholds (x : Int) (lz : List (Int × Int)) (vz : Value) (l : List (Evt × Evs)) (ve : Value) (nw cut t : Int) (w : World) (hz : ZoneIn w vz x lz) (hv : Evl w ve l) (hu : l.length ≤ 9223372036854775807) (hT : Tab w) :
    Calls Tryz.prog 3 #[vz, ve, .int .i64 nw, .int .i64 cut, .int .i64 t] w fun y w' => y = .returned (.bool true) ∧ Below w.heap.size w w' := by
  have hz0 := hz
  obtain ⟨sa, sc, rfl⟩ := hz.form
  obtain ⟨ea, ec, rfl⟩ := hv.form
  obtain ⟨W1, hW1⟩ : ∃ W1, W1 = w.alloc (.cells #[.int .i64 x, .slice sa lz.length sc] 24) := ⟨_, rfl⟩
  have b1 : Below w.heap.size w W1 := by rw [hW1]; exact below_alloc _ _
  have z0 : W1.cell? ⟨w.heap.size, 0, none⟩ = some (.int .i64 x) := by rw [hW1]; simp
  have z1 : W1.cell? ⟨w.heap.size, 1, none⟩ = some (.slice sa lz.length sc) := by rw [hW1]; simp
  have gl := cell_in z0
  have HX : Hid (∀ X, Below W1.heap.size W1 X → X.cell? ⟨w.heap.size, 0, none⟩ = some (.int .i64 x) ∧ X.cell? ⟨w.heap.size, 1, none⟩ = some (.slice sa lz.length sc) ∧ w.heap.size < X.heap.size) := Lib.hid (fun X q => ⟨(q.cell (p := ⟨w.heap.size, 0, none⟩) gl).trans z0, (q.cell (p := ⟨w.heap.size, 1, none⟩) gl).trans z1, Nat.lt_of_lt_of_le gl q.size⟩)
  have HZ : Hid (∀ X, Below W1.heap.size W1 X → ZoneIn X (.agg #[.int .i64 x, .slice sa lz.length sc]) x lz) := Lib.hid (fun X q => (hz0.on b1).on q)
  have HV : Hid (∀ X, Below W1.heap.size W1 X → Evl X (.slice ea l.length ec) l) := Lib.hid (fun X q => (hv.on b1).on q)
  have TRUE : Hid (∀ X, Below W1.heap.size W1 X → Below w.heap.size w X) := Lib.hid (fun X q => b1.trans (q.mono b1.size))
  have HT := Lib.hid (hT.below b1)
  have K1 := Lib.hid (wd_new (W1 := W1) (W := W1) (K := fun _ => False) 0 [] (.agg #[.int .i64 0, .slice none 0 0]) ⟨_, rfl, nil_nth _⟩ (Nat.zero_le _) rfl (Below.refl _ _) (fun _ h => h.elim))
  have HW := Lib.hid hW1
  have HU := Lib.hid hu
  clear b1 hz hz0 hv hT hW1 z0 z1 gl hu
  go_enter Tryz.func3, Tryz.ntmps3
  go_upto_region 1 with fail
  rw [← HW.out]
  clear HW
  go_wp2_with fail
  refine K1.out.mono ?_
  rintro y w2 ⟨b, rfl, h2, _⟩
  have H2 := Lib.hid h2
  clear K1 h2
  obtain ⟨W3, hW3⟩ : ∃ W3, W3 = w2.alloc (.cells #[.int .i64 (-5), .bool false, .int .i64 0, .int .i64 0] 32) := ⟨_, rfl⟩
  have b3 : Below w2.heap.size w2 W3 := by rw [hW3]; exact below_alloc _ _
  have s3 : W3.heap.size = w2.heap.size + 1 := by rw [hW3, World.size_alloc]
  have a3 : W3.heap[w2.heap.size]? = some (.cells #[.int .i64 (-5), .bool false, .int .i64 0, .int .i64 0] 32 (0, 0)) := by rw [hW3]; exact heap_alloc_new _ _
  have H3 := Lib.hid (H2.out.onB (K' := fun k => k = w2.heap.size) b3 (fun k hk => Or.inr ⟨by omega, by omega⟩))
  have A3 := Lib.hid a3
  have S3 := Lib.hid s3
  have HW3 := Lib.hid hW3
  clear H2 b3 s3 a3 hW3
  go_upto_region 5 with (refine ev_store ?h1 (.tmp 13) (.tmp 43) ?h2 (w2.heap.size + 1) _ _ ?h3 ?h9 evH (sH w2.heap.size) ?h4 ?h5 ?h6 ?h7; (case h1 => rfl); (case h2 => rfl); (case h3 => rfl); (case h9 => simp); (case h4 => simp [Value.oneCell']); (case h5 => rfl); (case h6 => rfl); intro W4 e4 b4; have E4 := Lib.hid e4; have B4 := Lib.hid b4; clear e4 b4)
  rw [← HW3.out] at B4
  have H4 := Lib.hid (H3.out.onB (K' := fun k => k = w2.heap.size) B4.out (fun k hk => Or.inl hk))
  have A4 : Hid (Sup (fun k => k = w2.heap.size) W4 (fun X => EvB X evH (sH w2.heap.size))) := Lib.hid (supH ((B4.out.block _ (by rw [S3.out]; omega)).trans A3.out))
  clear H3 A3 S3 HW3 B4
  have zb : w2.heap.size + 1 < W4.heap.size := E4.out.1.lt
  go_wp2_with (refine ev_load ?j1 (.tmp 13) ?j2 (w2.heap.size + 1) evH (sH w2.heap.size) ?j3 E4.out.1 ?j4; (case j1 => rfl); (case j2 => rfl); (case j3 => rfl))
  refine (wd_putK evH (sH w2.heap.size) H4.out (Gd.new rfl) HT.out A4.out).mono ?_
  rintro y w5 ⟨u5, c5, rfl, h5⟩
  rw [fact_put, efault_0]
  have H5 := Lib.hid h5
  have G5 : Hid (Gd ((newD 0 []).put evH)) := Lib.hid ((Gd.new rfl).put evH)
  clear H4 A4 h5 zb E4
  go_wp2_with fail
  refine (wd_tick 900 H5.out G5.out HT.out).mono ?_
  rintro y w6 ⟨a6, c6, rfl, _, h6, _⟩
  have g6 := G5.out.tick 900
  rw [fact_one.1, efault_0]
  rw [fact_one.2] at h6 g6
  have H6 := Lib.hid (h6.imp (K' := fun _ => False) (fun _ h => h.elim))
  have G6 := Lib.hid g6
  clear H5 h6 G5 g6
  go_wp2_with fail
  refine (wd_tick 995 H6.out G6.out HT.out).mono ?_
  rintro y w7 ⟨a7, c7, rfl, o7, h7, _⟩
  rw [fact_two.1, efault_0]
  rw [fact_two.2.1] at o7
  rw [fact_two.2.1]
  have G7 := Lib.hid (G6.out.tick 995)
  have H7 := Lib.hid (h7.imp (K' := fun _ => False) (fun _ h => h.elim))
  obtain ⟨g7, rfl, q7⟩ := own_first o7
  have y0 : w7.cell? ⟨g7, 0, none⟩ = some (.int .i64 995) := q7.1
  have y1 := cell_in y0
  have KR := wd_rung H7.out G7.out
  rw [fact_two.2.2] at KR
  have KR' := Lib.hid KR
  have bl7 := H7.out.lt
  clear H6 G6 h7 o7 q7 KR
  go_wp2_with fail
  refine KR'.out.mono ?_
  rintro y w8 ⟨a8, c8, rfl, _, h8, _⟩
  have B8 := Lib.hid h8.below
  clear KR' h8 H7 G7 y0 y1 bl7
  obtain ⟨z0, z1, zl⟩ := HX.out w8 B8.out
  by_cases hq : zf x lz = 0
  case neg =>
    have KN := Lib.hid (fun X q => new_bad x lz _ X (HZ.out X q) hq)
    have KZ := Lib.hid (fun X q => refZone_any x lz _ X (HZ.out X q))
    have HQ : Hid (¬ zf x lz = 0) := Lib.hid hq
    generalize zf x lz = F at KN KZ hq HQ
    go_wp2_with fail
    refine (KN.out w8 B8.out).mono ?_
    rintro y w9 ⟨rfl, hb9⟩
    have B9 := Lib.hid (B8.out.trans (hb9.mono B8.out.size))
    clear z0 z1 zl hb9
    obtain ⟨z0, z1, zl⟩ := HX.out w9 B9.out
    go_wp2_with fail
    refine (KN.out w9 B9.out).mono ?_
    rintro y w10 ⟨rfl, hb10⟩
    have B10 := Lib.hid (B9.out.trans (hb10.mono B9.out.size))
    clear z0 z1 zl hb10
    obtain ⟨z0, z1, zl⟩ := HX.out w10 B10.out
    go_wp2_with fail
    refine (KZ.out w10 B10.out).mono ?_
    rintro y w11 ⟨rfl, hb11⟩
    have B11 := Lib.hid (TRUE.out w11 (B10.out.trans (hb11.mono B10.out.size)))
    clear z0 z1 zl hb11 KN KZ HZ HX HV
    go_wp2
    go_ret
    exact ⟨ret_bool (by simpa using HQ.out), B11.out⟩
  have hll : lz.length ≤ 1000000 := by
    unfold zf at hq
    split at hq
    · cases hq
    · omega
  have HQ := Lib.hid hq
  have HL := Lib.hid hll
  clear hq hll
  go_wp2_with fail
  refine (wd_new (W1 := W1) (K := fun _ => False) x lz _ (HZ.out w8 B8.out) HL.out HQ.out B8.out (fun _ h => h.elim)).mono ?_
  rintro y w9 ⟨a, rfl, h9, _⟩
  have H9 := Lib.hid h9
  clear z0 z1 zl h9 B8
  obtain ⟨z0, z1, zl⟩ := HX.out w9 H9.out.below
  go_wp2_with fail
  refine (wd2_new x lz _ H9.out (HZ.out w9 H9.out.below) HL.out HQ.out).mono ?_
  rintro y w10 ⟨b2, rfl, h10, _⟩
  have H10 := Lib.hid h10
  clear z0 z1 zl h10 H9 HZ HX
  go_wp2_with fail
  go_loopw [15, 17, 24] (fun _ _ iv wr => ∃ k : Nat, k ≤ l.length ∧ k ≤ 20 ∧ iv = .int .i64 k ∧ ∃ D, Hid (Gd D ∧ D.now = 0) ∧ Hid (Wd2 W1 wr a D b2 D (fun _ => False))) (fun _ _ iv _ => 20 - (intOf iv).toNat)
  case atStart => exact ⟨0, Nat.zero_le _, Nat.zero_le _, rfl, _, Lib.hid ⟨Gd.new HQ.out, rfl⟩, H10⟩
  case round =>
    obtain ⟨k, hk, hk2, rfl, D, HG, H⟩ := hrel
    clear H10
    obtain ⟨c, hc⟩ : ∃ c : Bool, c = decide (k < l.length ∧ k < 20) := ⟨_, rfl⟩
    go_upto_region 15 with fail
    go_cut [117] from 110 to 117 (fun s wx => s = .bool c ∧ wx = wr)
    case first =>
      by_cases k1 : k < l.length
      · by_cases k2 : k < 20
        · have e1 : c = true := by rw [hc]; exact decide_eq_true ⟨k1, k2⟩
          subst e1
          clear hc
          go_wp2
          go_meet
          case rel => exact ⟨by simp; omega, rfl⟩
        · have e1 : c = false := by rw [hc]; exact decide_eq_false (fun q => k2 q.2)
          subst e1
          clear hc
          go_wp2
          go_meet
          case rel => exact ⟨by simp; omega, rfl⟩
      · have e1 : c = false := by rw [hc]; exact decide_eq_false (fun q => k1 q.1)
        subst e1
        clear hc
        go_wp2
        go_meet
        case rel => exact ⟨by simp, rfl⟩
    case rest =>
    obtain ⟨hs, hw⟩ := hcut
    replace hw := hw.symm
    subst hs
    subst hw
    rcases c with _ | _
    case true =>
      obtain ⟨k1, k2⟩ := of_decide_eq_true hc.symm
      clear hc
      obtain ⟨bE, off, rfl, _, ltE, rgE, _⟩ := evl_at (HV.out wr H.out.below) k1
      have ev1 := (HV.out W1 (Below.refl _ _)).2 _ (List.getElem_mem k1)
      have HE : Hid (∀ X, Below W1.heap.size W1 X → bE < X.heap.size ∧ X.rangeAt bE (off + k * 17) (encE l[k])) := Lib.hid (fun X q => by
        obtain ⟨b', off', e', _, lt', rg', _⟩ := evl_at (HV.out X q) k1
        injection e' with e'
        injection e' with e1 e2
        subst e1 e2
        exact ⟨lt', rg'⟩)
      generalize l[k] = p at HE ev1
      obtain ⟨e, s⟩ := p
      have EV := Lib.hid ev1
      clear rgE ev1
      go_wp2_with (refine evr_load ?k1 (.tmp 124) ?k2 bE (off + k * 17) e s ?k3 (HE.out wr H.out.below).2 ?k4; (case k1 => rfl); (case k2 => rfl); (case k3 => rfl))
      refine (wd2_put e s H.out HG.out.1 HT.out EV.out).mono ?_
      rintro y w11 ⟨u11, c11, rfl, _, h11, _⟩
      have H11 := Lib.hid (h11.swap.imp (K' := fun _ => False) (fun _ h => h.elim))
      clear H h11 ltE
      have ltE := (HE.out w11 H11.out.below).1
      go_wp2_with (refine evr_load ?l1 (.tmp 134) ?l2 bE (off + k * 17) e s ?l3 (HE.out w11 H11.out.below).2 ?l4; (case l1 => rfl); (case l2 => rfl); (case l3 => rfl))
      refine (wd2_put e s H11.out HG.out.1 HT.out EV.out).mono ?_
      rintro y w12 ⟨u12, c12, rfl, _, h12, _⟩
      have H12 := Lib.hid (h12.swap.imp (K' := fun _ => False) (fun _ h => h.elim))
      have G12 : Hid (Gd (D.put e) ∧ (D.put e).now = 0) := Lib.hid ⟨HG.out.1.put e, by rw [(put_now D e).1]; exact HG.out.2⟩
      clear H11 h12 ltE HE EV
      by_cases f : putF D e = 0
      · rw [f, efault_0]
        go_upto_region 19 with fail
        go_quiet (fail)
        go_wp2
        go_roundw
        case rel => exact ⟨k + 1, by omega, by omega, by go_num, _, G12, Lib.hid (H12.out.onB (K' := fun _ => False) (below_drewN (Below.refl _ _) _) (fun _ h => h.elim))⟩
        case measure => simp [intOf]; omega
      · rw [efault_ne f]
        go_upto_region 19 with fail
        go_quiet (fail)
        go_wp2
        go_roundw
        case rel => exact ⟨k + 1, by omega, by omega, by go_num, _, G12, Lib.hid (H12.out.onB (K' := fun _ => False) (below_drewN (Below.refl _ _) _) (fun _ h => h.elim))⟩
        case measure => simp [intOf]; omega
    case false =>
      clear hc hk hk2 HV HU
      obtain ⟨gD, n0⟩ := HG.out
      obtain ⟨r0, s0⟩ := gD.zero n0
      go_wp2_with fail
      refine (wd2_tick nw H.out gD HT.out).mono ?_
      rintro y w11 ⟨u11, c11, rfl, _, h11, _⟩
      have H11 := Lib.hid (h11.swap.imp (K' := fun _ => False) (fun _ h => h.elim))
      clear H h11
      go_wp2_with fail
      refine (wd2_tick nw H11.out gD HT.out).mono ?_
      rintro y w12 ⟨u12, c12, rfl, _, h12, _⟩
      have H12 := Lib.hid (h12.swap.imp (K' := fun _ => False) (fun _ h => h.elim))
      have B12 := Lib.hid (TRUE.out w12 h12.below)
      clear H11 h12
      go_upto_region 23 with fail
      by_cases f1 : ticF D nw = 0
      case neg =>
        rw [efault_ne f1]
        clear H12 HG
        go_wp2
        go_ret
        exact ⟨rfl, B12.out⟩
      rw [f1, efault_0]
      by_cases p1 : cut ≤ nw
      · clear H12 HG
        go_wp2
        go_ret
        exact ⟨rfl, B12.out⟩
      by_cases p2 : t ≤ cut
      · clear H12 HG
        go_wp2
        go_ret
        exact ⟨rfl, B12.out⟩
      obtain ⟨eD1, n1⟩ := tick_one f1 n0
      have g1 := gD.tick nw
      have N1 : (D.tick nw).now = nw := by rw [eD1]
      have R1 : (D.tick nw).rung = [] := by rw [eD1]; exact r0
      have S1 : (D.tick nw).snz = [] := by rw [eD1]; exact s0
      generalize D.tick nw = D1 at H12 g1 N1 R1 S1
      clear HG gD n0 r0 s0 eD1 f1 HQ HL
      go_wp2_with fail
      refine (wd2_tick cut H12.out g1 HT.out).mono ?_
      rintro y w13 ⟨u13, c13, rfl, o13, h13, _, _⟩
      have H13 := Lib.hid h13
      have O13 := Lib.hid o13
      clear H12 h13 o13
      go_wp2_with fail
      refine (wd2_tick t H13.out (g1.tick cut) HT.out).mono ?_
      rintro y w14 ⟨u14, c14, rfl, o14, h14, k14, _⟩
      have O13b := Lib.hid (own_on O13.out (fun g hg => k14 g (Or.inr hg)))
      have H14 := Lib.hid h14.swap
      have O14 := Lib.hid o14
      clear H13 O13 h14 o14 k14
      go_wp2_with fail
      refine (wd2_tick t H14.out g1 HT.out).mono ?_
      rintro y w15 ⟨u15, c15, rfl, o15, h15, k15, fr15⟩
      have O1 := Lib.hid (own_on O13b.out (fun g hg => k15 g (Or.inl (Or.inr hg))))
      have O2 := Lib.hid (own_on O14.out (fun g hg => k15 g (Or.inr hg)))
      have NE : Hid (∀ g, (Value.slice u15 (ticL D1 t).length c15).ownBlock = some g → (Value.slice u13 (ticL D1 cut).length c13).ownBlock ≠ some g) := Lib.hid (fun g h1 h2 => by
        have := H14.out.klt (Or.inl (Or.inr h2))
        have := fr15 g h1
        omega)
      have H15 := Lib.hid h15.swap
      have O3 := Lib.hid o15
      have B15 := Lib.hid (TRUE.out w15 h15.below)
      clear H14 O13b O14 h15 o15 k15 fr15
      go_upto_region 28 with fail
      by_cases f2 : ticF D1 cut = 0
      case neg =>
        rw [efault_ne f2]
        clear H15 O1 O2 O3 NE
        go_wp2
        go_ret
        exact ⟨rfl, B15.out⟩
      rw [f2, efault_0]
      by_cases f3 : ticF (D1.tick cut) t = 0
      case neg =>
        rw [efault_ne f3]
        clear H15 O1 O2 O3 NE
        go_wp2
        go_ret
        exact ⟨rfl, B15.out⟩
      rw [f3, efault_0]
      by_cases f4 : ticF D1 t = 0
      case neg =>
        rw [efault_ne f4]
        clear H15 O1 O2 O3 NE
        go_wp2
        go_ret
        exact ⟨rfl, B15.out⟩
      rw [f4, efault_0]
      obtain ⟨t1, t2, t3, t4⟩ := two_ticks g1 (by rw [N1]; omega) S1 f2 f3 f4
      have g3 : Gd ((D1.tick cut).tick t) := (g1.tick cut).tick t
      have g4 : Gd (D1.tick t) := g1.tick t
      have ll : (ticL D1 t).length ≤ 400 := by
        have := g3.nr
        rw [t3, R1] at this
        exact this
      obtain ⟨v16, w16, ap, o16, g16, p16⟩ := app5_at O1.out O2.out.rd H15.out.below.size (by have := congrArg List.length t1; rw [List.length_append] at this; omega)
      rw [t1] at o16
      have AP := Lib.hid ap
      have O16 := Lib.hid o16
      have O15 := Lib.hid (own_on O3.out (fun g hg => g16.block g (O3.out.lt g hg).2 (fun e => NE.out g hg e.symm)))
      have H16 : Hid (Wd2 W1 w16 a ((D1.tick cut).tick t) b2 (D1.tick t) (fun k => v16.ownBlock = some k)) := Lib.hid (by
        rcases hown : (Value.slice u13 (ticL D1 cut).length c13).ownBlock with _ | g
        · rw [hown] at g16 p16
          refine H15.out.onB ⟨g16.os, g16.tape, g16.output, g16.size, fun k hk => g16.block k hk (by simp)⟩ (fun k hk => ?_)
          rcases p16 with p | p
          · rw [p] at hk; cases hk
          · rw [p] at hk
            injection hk with hk
            exact Or.inr ⟨by omega, (o16.lt k (by rw [p, hk])).2⟩
        · rw [hown] at g16 p16
          refine H15.out.grown g16 (Or.inl (Or.inl (Or.inr hown))) (O1.out.lt g hown).1 (fun k hk => ?_)
          rcases p16 with p | p
          · rw [p] at hk
            exact Or.inl (Or.inl (Or.inl (Or.inr (by rw [hown]; exact hk))))
          · rw [p] at hk
            injection hk with hk
            exact Or.inr ⟨by omega, (o16.lt k (by rw [p, hk])).2⟩)
      have TO := Lib.hid (fun z (q : z ∈ ticL D1 t) => told_of g1 S1 q)
      have TR := Lib.hid (told_rs D1 t)
      have RUN : Hid (((D1.tick cut).tick t).rung = ticL D1 t ∧ (D1.tick t).rung = ticL D1 t) := Lib.hid ⟨by rw [t3, R1]; rfl, by rw [← t2, t3, R1]; rfl⟩
      have EV3 : Hid (((D1.tick cut).tick t).ev = D1.ev) := Lib.hid t4
      have G3 := Lib.hid g3
      have G4 := Lib.hid g4
      have NW := Lib.hid N1
      obtain ⟨a16, c16, e16, _⟩ := o16.rd
      subst e16
      clear ap o16 g16 p16 t1 t2 t3 t4 O1 O2 O3 NE H15 g1 g3 g4 f2 f3 f4 R1 S1 N1 B15
      generalize ticL D1 t = L at *
      go_wp2_with (at_builtin; refine wpl_app _ rfl _ _ 41 41 rfl _ _ rfl rfl (AP.out _) ?_)
      refine (sameRings L _ _ w16 (Ow.rd O16.out) (Ow.rd O15.out) (by omega)).mono ?_
      rintro y w17 ⟨rfl, hb17⟩
      have H17 := Lib.hid (H16.out.onB (K' := fun k => (Value.slice a16 L.length c16).ownBlock = some k) hb17 (fun k hk => Or.inl hk))
      have O17 := Lib.hid (ow_below O16.out hb17)
      clear AP O16 O15 H16 hb17
      have KR := wd2_rung H17.out G3.out
      rw [RUN.out.1] at KR
      have KR' := Lib.hid KR
      have bl17 := H17.out.lt
      clear KR
      go_wp2_with fail
      refine KR'.out.mono ?_
      rintro y w18 ⟨u18, c18, rfl, o18, h18, b18⟩
      have H18 := Lib.hid (h18.swap.imp (K' := fun k => (Value.slice a16 L.length c16).ownBlock = some k) (fun k hk => Or.inl hk))
      have O18 := Lib.hid o18
      have O17b := Lib.hid (ow_below O17.out b18)
      clear KR' H17 O17 o18 h18 b18 bl17
      have KR := wd2_rung H18.out G4.out
      rw [RUN.out.2] at KR
      have KR' := Lib.hid KR
      have bl18 := H18.out.lt
      clear KR
      go_wp2_with fail
      refine KR'.out.mono ?_
      rintro y w19 ⟨u19, c19, rfl, o19, h19, b19⟩
      have H19 := Lib.hid (h19.swap.imp (K' := fun k => (Value.slice a16 L.length c16).ownBlock = some k) (fun k hk => Or.inl hk))
      have O19 := Lib.hid o19
      have O18b := Lib.hid (ow_below O18.out b19)
      have O17c := Lib.hid (ow_below O17b.out b19)
      clear KR' H18 O18 O17b o19 h19 b19 bl18
      go_wp2_with fail
      refine (sameRings L _ _ w19 (Ow.rd O18b.out) (Ow.rd O19.out) (by omega)).mono ?_
      rintro y w20 ⟨rfl, hb20⟩
      have H20 := Lib.hid (H19.out.onB (K' := fun k => (Value.slice a16 L.length c16).ownBlock = some k) hb20 (fun k hk => Or.inl hk))
      have O20 := Lib.hid (ow_below O17c.out hb20)
      clear H19 O19 O18b O17c hb20
      have KR := wd2_rung H20.out G3.out
      rw [RUN.out.1] at KR
      have KR' := Lib.hid KR
      have bl20 := H20.out.lt
      clear KR
      go_wp2_with fail
      refine KR'.out.mono ?_
      rintro y w21 ⟨u21, c21, rfl, o21, h21, b21⟩
      have H21 := Lib.hid (h21.imp (K' := fun k => (Value.slice a16 L.length c16).ownBlock = some k) (fun k hk => Or.inl hk))
      have O21 := Lib.hid (ow_below O20.out b21)
      clear KR' H20 O20 o21 h21 b21 bl20 RUN
      go_wp2_with fail
      generalize (D1.tick cut).tick t = D3 at H21 G3 EV3
      generalize D1.tick t = D4 at H21 G4
      clear G4 p1 p2
      go_loopw [30, 31, 32, 33] (fun iv _ _ _ wr => ∃ k : Nat, k ≤ L.length ∧ iv = .int .i64 k ∧ Hid (Wd2 W1 wr a D3 b2 D4 (fun k => (Value.slice a16 L.length c16).ownBlock = some k)) ∧ Hid (Ow wr W1.heap.size (.slice a16 L.length c16) L)) (fun iv _ _ _ _ => L.length - (intOf iv).toNat)
      case atStart => exact ⟨0, Nat.zero_le _, rfl, H21, O21⟩
      case round =>
        obtain ⟨k, hk, rfl, H, O⟩ := hrel
        clear H21 O21
        by_cases hlt : k < L.length
        case neg =>
          have B9 := Lib.hid (TRUE.out wr H.out.below)
          have hni : ¬ (k : Int) < (L.length : Int) := by omega
          clear H O TO TR
          go_wp2
          go_ret
          exact ⟨rfl, B9.out⟩
        obtain ⟨g, ga, atk⟩ := own_at O.out hlt
        subst ga
        have hmem : L.getD k zq ∈ L := by rw [List.getD_eq_getElem?_getD, List.getElem?_eq_getElem hlt]; exact List.getElem_mem hlt
        obtain ⟨t1, t2, e0, he0, hen⟩ := TO.out _ hmem
        rw [NW.out] at t1
        have PV : Hid (∀ j, k = j + 1 → oc (L.getD j zq) (L.getD k zq) < 0 ∧ ∃ g', g' = g ∧ At5 wr g' (j * 5) (L.getD j zq)) := Lib.hid (fun j hj => by
          obtain ⟨g', e', at'⟩ := own_at O.out (k := j) (by omega)
          injection e' with e'
          injection e' with e'
          exact ⟨rs_at TR.out (by omega) hlt, g', e'.symm, at'⟩)
        generalize L.getD k zq = z at atk t1 t2 hen PV hmem
        have ANY : Hid ((D1.ev).any (fun e => decide (e.name = z.2.1)) = true) := Lib.hid (List.any_eq_true.2 ⟨e0, he0, decide_eq_true hen⟩)
        have AT := Lib.hid atk
        have KN := wd2_names H.out G3.out
        rw [EV3.out] at KN
        have KN' := Lib.hid KN
        have blr := H.out.lt
        clear KN atk hmem he0 hen
        go_wp2_with fail
        refine KN'.out.mono ?_
        rintro y w22 ⟨un, cn, rfl, h22, hb22, hnm⟩
        have HNM := Lib.hid hnm
        have H22 := Lib.hid h22
        have O22 := Lib.hid (ow_below O.out hb22)
        have B22 := Lib.hid hb22
        have evl : D1.ev.length ≤ 20 := by rw [← EV3.out]; exact G3.out.nev
        clear KN' h22 hb22 hnm H O blr
        generalize D1.ev = es at ANY HNM evl
        go_wp2_with fail
        go_loopw [31, 33] (fun hb jv wx => ∃ i : Nat, i ≤ es.length ∧ jv = .int .i64 i ∧ hb = .bool ((es.take i).any (fun e => decide (e.name = z.2.1))) ∧ Hid (Below w22.heap.size w22 wx)) (fun _ jv _ => es.length - (intOf jv).toNat)
        case atStart => exact ⟨0, Nat.zero_le _, rfl, rfl, Lib.hid (Below.refl _ _)⟩
        case round =>
          obtain ⟨i, hi, rfl, rfl, HB⟩ := hrel
          by_cases hl2 : i < es.length
          · rcases HNM.out with hn | ⟨gn, cur, rfl, hg, hcell⟩
            · rw [hn] at hl2; simp at hl2
            have nmc := hcell _ (HB.out.block gn (heap_lt hg)) i hl2
            have xc := ((AT.out.2.1 |> fun q => (B22.out.cell (p := ⟨g, k * 5 + 1, none⟩) (cell_in q)).trans q) |> fun q => (HB.out.cell (p := ⟨g, k * 5 + 1, none⟩) (cell_in q)).trans q)
            have l1 := cell_in nmc
            have l2 := cell_in xc
            have e1 : (es.take (i + 1)).any (fun e => decide (e.name = z.2.1)) = ((es.take i).any (fun e => decide (e.name = z.2.1)) || decide ((es.getD i noE).name = z.2.1)) := by
              rw [List.take_succ_eq_append_getElem hl2, List.any_append, List.getD_eq_getElem?_getD, List.getElem?_eq_getElem hl2]
              simp
            have qi : IntKind.i64.wrap ((i : Int) + 1) = (i : Int) + 1 := by rw [IntKind.wrap_i64]; omega
            have E1 := Lib.hid e1
            generalize (es.take i).any (fun e => decide (e.name = z.2.1)) = B at E1 ⊢
            generalize (es.getD i noE).name = nm at nmc E1
            clear e1 hg hcell
            go_upto_region 43 with fail
            rcases B with _ | _
            · by_cases hs : nm = z.2.1
              · subst hs
                go_quiet (fail)
                go_wp2
                go_roundw
                case rel => exact ⟨i + 1, by omega, by go_num, by rw [E1.out]; simp, Lib.hid (HB.out.trans ((below_drewN (Below.refl _ _) _).mono HB.out.size))⟩
                case measure => simp [intOf]; omega
              · go_quiet (fail)
                go_wp2
                go_roundw
                case rel => exact ⟨i + 1, by omega, by go_num, by rw [E1.out, decide_eq_false hs]; simpa using fun e => hs (toList_inj e), Lib.hid (HB.out.trans ((below_drewN (Below.refl _ _) _).mono HB.out.size))⟩
                case measure => simp [intOf]; omega
            · go_quiet (fail)
              go_wp2
              go_roundw
              case rel => exact ⟨i + 1, by omega, by go_num, by rw [E1.out]; simp, Lib.hid (HB.out.trans ((below_drewN (Below.refl _ _) _).mono HB.out.size))⟩
              case measure => simp [intOf]; omega
          · have ei : i = es.length := by omega
            subst ei
            rw [List.take_length, ANY.out]
            have A22 := at5_B AT.out B22.out
            have HS : Hid (∀ X, Below w22.heap.size w22 X → (fun X : World => X.cell? ⟨g, k * 5, none⟩ = some (.int .i64 z.1) ∧ X.cell? ⟨g, k * 5 + 1, none⟩ = some (.string z.2.1) ∧ X.cell? ⟨g, k * 5 + 2, none⟩ = some (.int .i64 z.2.2.1) ∧ X.cell? ⟨g, k * 5 + 3, none⟩ = some (.int .i64 z.2.2.2.1) ∧ X.cell? ⟨g, k * 5 + 4, none⟩ = some (.int .i64 z.2.2.2.2)) X) := Lib.hid (fun X q => at5_B A22 q)
            have d1 : decide (z.1 ≤ nw) = false := decide_eq_false (by omega)
            have d2 : decide (z.1 > t) = false := decide_eq_false (by omega)
            have d3 : decide (t < z.1) = false := decide_eq_false (by omega)
            have qk : IntKind.i64.wrap ((k : Int) + 1) = (k : Int) + 1 := by rw [IntKind.wrap_i64]; omega
            rcases Nat.eq_zero_or_pos k with h0 | h0
            · have d7 : decide ((k : Int) > 0) = false := decide_eq_false (by omega)
              have d8 : decide ((0 : Int) < (k : Int)) = false := decide_eq_false (by omega)
              have d9 : decide (0 < k) = false := decide_eq_false (by omega)
              obtain ⟨x0, x1, x2, x3, x4⟩ := HS.out _ HB.out
              have xl := cell_in x0
              clear h0 PV A22 AT ANY HNM HS
              go_upto_region 44 with fail
              go_quiet (fail)
              have HF := Lib.hid (HB.out.trans ((below_drewN (Below.refl _ _) nq).mono HB.out.size))
              clear x0 x1 x2 x3 x4 xl
              go_wp2
              go_roundw
              case rel => exact ⟨k + 1, by omega, by go_num, Lib.hid (H22.out.onB (K' := fun k => (Value.slice (some ⟨g, 0, none⟩) L.length c16).ownBlock = some k) HF.out (fun _ h => Or.inl h)), Lib.hid (ow_below O22.out HF.out)⟩
              case measure => simp [intOf]; omega
            · obtain ⟨j, hj⟩ : ∃ j, k = j + 1 := ⟨k - 1, by omega⟩
              obtain ⟨hP, g', rfl, atp⟩ := PV.out j hj
              generalize L.getD j zq = zp at hP atp
              have P22 := at5_B atp B22.out
              obtain ⟨x0, x1, x2, x3, x4⟩ := HS.out _ HB.out
              obtain ⟨p0, p1, p2, p3, p4⟩ := at5_B P22 HB.out
              have n0 := cell_regrown x0
              have n1 := cell_regrown x1
              have n2 := cell_regrown x2
              have n3 := cell_regrown x3
              have n4 := cell_regrown x4
              have n5 := cell_regrown p0
              have n6 := cell_regrown p1
              have n7 := cell_regrown p2
              have n8 := cell_regrown p3
              have n9 := cell_regrown p4
              have KO := Lib.hid (fun W (_ : Below wr.heap.size wr W) => Qu.order_any zp z W)
              generalize oc zp z = CV at KO hP
              have r1 : (0 : Int) ≤ (k : Int) - 1 := by omega
              have r2 : (k : Int) - 1 < (L.length : Int) := by omega
              have r3 : ((k : Int) - 1).toNat = j := by omega
              have v1 : IntKind.i64.wrap ((k : Int) - 1) = (k : Int) - 1 := by rw [IntKind.wrap_i64]; omega
              have v2 : wrap64 ((k : Int) - 1) = (k : Int) - 1 := by unfold wrap64; omega
              have d7 : decide ((k : Int) > 0) = true := decide_eq_true (by omega)
              have d8 : decide ((0 : Int) < (k : Int)) = true := decide_eq_true (by omega)
              have d9 : decide (0 < k) = true := decide_eq_true h0
              have d10 : decide (CV ≥ 0) = false := decide_eq_false (by omega)
              have d11 : decide (0 ≤ CV) = false := decide_eq_false (by omega)
              clear h0 PV A22 AT ANY HNM hj hP atp P22 HS x0 x1 x2 x3 x4 p0 p1 p2 p3 p4
              go_upto_region 44 with fail
              refine wp_region_quiet_below (by kernel_rfl) (by kernel_rfl) ?_
              repeat (go_big_quiet_step (first | (go_at_call 13; exact Calls.regrown_of (KO.out _ (below_regrown wr _ _)))))
              refine wpQuiet_nil ?_
              intro _ hw'
              obtain ⟨⟨dq, osq⟩, hw''⟩ := hw'
              subst hw''
              have HF := Lib.hid (HB.out.trans ((below_regrown wr dq osq).mono HB.out.size))
              clear n0 n1 n2 n3 n4 n5 n6 n7 n8 n9 KO
              go_wp2
              go_roundw
              case rel => exact ⟨k + 1, by omega, by go_num, Lib.hid (H22.out.onB (K' := fun k => (Value.slice (some ⟨g', 0, none⟩) L.length c16).ownBlock = some k) HF.out (fun _ h => Or.inl h)), Lib.hid (ow_below O22.out HF.out)⟩
              case measure => simp [intOf]; omega
end Go.Proofs.YthdohcjingfpoaaGreatDoor.Dk
