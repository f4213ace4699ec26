/-
  What is proved here: the walk of chimelaw1.DayTells: it returns true for every date and number, and turns nothing that was there; the table of months and errors.errorType are asked as premises.
-/
import Derived.Test.YtpoajofkodgmhaaDoorRef
import Derived.Test.YtpoajofkodgmhaaDoorTold
namespace Go.Proofs.YtpoajofkodgmhaaDoor
open Go.RowKit Cal

/-- An error that is nil is told as 0, and ErrRange as 1. -/
theorem error_nil0 (w : World) : Calls Tryd.prog 8 #[.nilIface, .int .i64 0] w fun e w' => e = .returned (.bool true) ∧ Below w.heap.size w w' :=
  (error_nil 0 w).mono fun _ _ ⟨he, hw⟩ => ⟨he, by subst hw; exact Below.refl _ _⟩
theorem error_range (w : World) (hg : ErrTy w) : Calls Tryd.prog 8 #[errRange, .int .i64 1] w fun e w' => e = .returned (.bool true) ∧ Below w.heap.size w w' :=
  (error_errno 1 1 w hg).mono fun _ _ ⟨he, hw⟩ => ⟨he, hw⟩
/-- What all steps carry: the table, the handle, nothing old turned. -/
def Keeps (w W : World) : Prop := Tab W ∧ ErrTy W ∧ Below w.heap.size w W
theorem Keeps.start {w : World} (hT : Tab w) (hG : ErrTy w) : Keeps w w := ⟨hT, hG, Below.refl _ _⟩
theorem Keeps.alloc {w W : World} (h : Keeps w W) (o : Obj) : Keeps w (W.alloc o) := ⟨h.1.alloc o, h.2.1.alloc o, h.2.2.alloc h.2.2.size o⟩
theorem Keeps.on {w W W' : World} (h : Keeps w W) (b : Below W.heap.size W W') : Keeps w W' := ⟨h.1.below b, h.2.1.below b, h.2.2.trans (b.mono h.2.2.size)⟩
/-- A date lies in a block. -/
def Dat (W : World) (b : Nat) (y m d : Int) : Prop := W.cell? ⟨b, 0, none⟩ = some (.int .i64 y) ∧ W.cell? ⟨b, 1, none⟩ = some (.int .i64 m) ∧ W.cell? ⟨b, 2, none⟩ = some (.int .i64 d)
theorem Dat.lt {W : World} {b : Nat} {y m d : Int} (h : Dat W b y m d) : b < W.heap.size := by
  have k := h.1
  rcases Nat.lt_or_ge b W.heap.size with q | q
  · exact q
  · simp [World.cell?, Array.getElem?_eq_none q] at k
theorem Dat.on {W W' : World} {b : Nat} {y m d : Int} (h : Dat W b y m d) (k : Below W.heap.size W W') : Dat W' b y m d :=
  ⟨(k.cell (p := ⟨b, 0, none⟩) h.lt).trans h.1, (k.cell (p := ⟨b, 1, none⟩) h.lt).trans h.2.1, (k.cell (p := ⟨b, 2, none⟩) h.lt).trans h.2.2⟩
theorem Dat.alloc {W : World} {b : Nat} {y m d : Int} (h : Dat W b y m d) (o : Obj) : Dat (W.alloc o) b y m d := h.on ((Below.refl _ _).alloc (Nat.le_refl _) _)
theorem Dat.new (W : World) (y m d : Int) (t : TypeId) : Dat (W.alloc (.cells #[.int .i64 y, .int .i64 m, .int .i64 d] t)) W.heap.size y m d := ⟨by simp, by simp, by simp⟩

set_option maxRecDepth 100000 in
set_option maxHeartbeats 4000000 in
theorem tells_ok_yes (y m d n : Int) (w : World) (hK : Keeps w w) (hd : okD y m d) (h1 : 1 ≤ n) (h2 : n ≤ 109573) :
    Calls Tryd.prog 3 #[.agg #[.int .i64 y, .int .i64 m, .int .i64 d], .int .i64 n] w fun e w' => e = .returned (.bool true) ∧ Below w.heap.size w w' := by
  obtain ⟨a, b, c, g, k, l⟩ := hd
  have OK : Hid (okD y m d) := ⟨a, b, c, g, k, l⟩
  have mb := ml_bd y m
  have nb := num_bd OK.out
  have z1 : (ml y m == 0) = false := by simp; omega
  have z2 : (num y m d == 0) = false := by simp; omega
  clear mb nb k l
  go_enter Tryd.func3, Tryd.ntmps3
  go_wp2_with fail
  have K0 := hK.alloc (.cells #[.int .i64 y, .int .i64 m, .int .i64 d] 23)
  have D0 := Dat.new w y m d 23
  refine (refDays_yes y m _ a b c g).mono ?_
  rintro e w' ⟨rfl, hw⟩
  subst hw
  go_wp2_with fail
  refine (days_yes y m _ K0.1 a b c g).mono ?_
  rintro e w' ⟨rfl, hw⟩
  subst hw
  go_wp2_with fail
  refine (error_nil0 _).mono ?_
  rintro e w1 ⟨rfl, hb⟩
  have K1 := K0.on hb
  have D1 := D0.on hb
  clear hb K0 D0
  obtain ⟨D_0, D_1, D_2⟩ := id D1
  have D_l := D1.lt
  go_wp2_with fail
  clear D_0 D_1 D_2 D_l
  refine (refOf_yes y m d _ OK.out).mono ?_
  rintro e w2 ⟨rfl, hb⟩
  have K2 := K1.on hb
  have D2 := D1.on hb
  clear hb K1 D1
  obtain ⟨D_0, D_1, D_2⟩ := id D2
  have D_l := D2.lt
  go_wp2_with fail
  clear D_0 D_1 D_2 D_l
  refine (of_yes y m d _ K2.1 OK.out).mono ?_
  rintro e w3 ⟨rfl, hb⟩
  have K3 := K2.on hb
  have D3 := D2.on hb
  clear hb K2 D2
  obtain ⟨D_0, D_1, D_2⟩ := id D3
  have D_l := D3.lt
  go_wp2_with fail
  clear D_0 D_1 D_2 D_l
  refine (error_nil0 _).mono ?_
  rintro e w4 ⟨rfl, hb⟩
  have K4 := K3.on hb
  have D4 := D3.on hb
  clear hb K3 D3
  obtain ⟨D_0, D_1, D_2⟩ := id D4
  have D_l := D4.lt
  go_wp2_with fail
  clear D_0 D_1 D_2 D_l
  refine (refDate_yes n _ h1 h2).mono ?_
  rintro e w5 ⟨rfl, hb⟩
  have K5 := K4.on hb
  have D5 := D4.on hb
  clear hb K4 D4
  obtain ⟨D_0, D_1, D_2⟩ := id D5
  have D_l := D5.lt
  go_wp2_with fail
  clear D_0 D_1 D_2 D_l
  have X6 := Dat.new w5 (yr n) (mo n) (da n) 23
  have K6 := K5.alloc (.cells #[.int .i64 (yr n), .int .i64 (mo n), .int .i64 (da n)] 23)
  have D6 := D5.alloc (.cells #[.int .i64 (yr n), .int .i64 (mo n), .int .i64 (da n)] 23)
  clear K5 D5
  refine (refWeekday_any n _ h1 h2).mono ?_
  rintro e w' ⟨rfl, hw⟩
  subst hw
  obtain ⟨D_0, D_1, D_2⟩ := id D6
  have D_l := D6.lt
  obtain ⟨X_0, X_1, X_2⟩ := id X6
  have X_l := X6.lt
  go_wp2_with fail
  clear D_0 D_1 D_2 D_l X_0 X_1 X_2 X_l
  refine (date_yes n _ K6.1 h1 h2).mono ?_
  rintro e w7 ⟨rfl, hb⟩
  have K7 := K6.on hb
  have D7 := D6.on hb
  have X7 := X6.on hb
  clear hb K6 D6 X6
  obtain ⟨D_0, D_1, D_2⟩ := id D7
  have D_l := D7.lt
  obtain ⟨X_0, X_1, X_2⟩ := id X7
  have X_l := X7.lt
  go_wp2_with fail
  clear D_0 D_1 D_2 D_l X_0 X_1 X_2 X_l
  have Y8 := Dat.new w7 (yr n) (mo n) (da n) 23
  have K8 := K7.alloc (.cells #[.int .i64 (yr n), .int .i64 (mo n), .int .i64 (da n)] 23)
  have D8 := D7.alloc (.cells #[.int .i64 (yr n), .int .i64 (mo n), .int .i64 (da n)] 23)
  have X8 := X7.alloc (.cells #[.int .i64 (yr n), .int .i64 (mo n), .int .i64 (da n)] 23)
  clear K7 D7 X7
  refine (error_nil0 _).mono ?_
  rintro e w9 ⟨rfl, hb⟩
  have K9 := K8.on hb
  have D9 := D8.on hb
  have X9 := X8.on hb
  have Y9 := Y8.on hb
  clear hb K8 D8 X8 Y8
  obtain ⟨D_0, D_1, D_2⟩ := id D9
  have D_l := D9.lt
  obtain ⟨X_0, X_1, X_2⟩ := id X9
  have X_l := X9.lt
  obtain ⟨Y_0, Y_1, Y_2⟩ := id Y9
  have Y_l := Y9.lt
  go_wp2_with fail
  clear D_0 D_1 D_2 D_l X_0 X_1 X_2 X_l Y_0 Y_1 Y_2 Y_l
  refine (weekday_yes n _ h1 h2).mono ?_
  rintro e w' ⟨rfl, hw⟩
  subst hw
  obtain ⟨D_0, D_1, D_2⟩ := id D9
  have D_l := D9.lt
  obtain ⟨X_0, X_1, X_2⟩ := id X9
  have X_l := X9.lt
  obtain ⟨Y_0, Y_1, Y_2⟩ := id Y9
  have Y_l := Y9.lt
  go_wp2_with fail
  clear D_0 D_1 D_2 D_l X_0 X_1 X_2 X_l Y_0 Y_1 Y_2 Y_l
  refine (error_nil0 _).mono ?_
  rintro e w10 ⟨rfl, hb⟩
  have K10 := K9.on hb
  have D10 := D9.on hb
  have X10 := X9.on hb
  have Y10 := Y9.on hb
  clear hb K9 D9 X9 Y9
  obtain ⟨D_0, D_1, D_2⟩ := id D10
  have D_l := D10.lt
  obtain ⟨X_0, X_1, X_2⟩ := id X10
  have X_l := X10.lt
  obtain ⟨Y_0, Y_1, Y_2⟩ := id Y10
  have Y_l := Y10.lt
  go_wp2_with fail
  go_quiet ((first | (go_at_call 15; exact Calls.quiet_of_same (leap_any _ _)) | (go_at_call 16; exact Calls.quiet_of_same (refLeap_any _ _)) | (go_at_call 17; exact Calls.quiet_of_same (last_any _))))
  go_wp2
  go_ret
  exact ⟨rfl, below_drewN K10.2.2 _⟩
set_option maxRecDepth 100000 in
set_option maxHeartbeats 4000000 in
theorem tells_ok_no (y m d n : Int) (w : World) (hK : Keeps w w) (hd : okD y m d) (hn : Hid (¬ (1 ≤ n ∧ n ≤ 109573))) :
    Calls Tryd.prog 3 #[.agg #[.int .i64 y, .int .i64 m, .int .i64 d], .int .i64 n] w fun e w' => e = .returned (.bool true) ∧ Below w.heap.size w w' := by
  obtain ⟨a, b, c, g, k, l⟩ := hd
  have OK : Hid (okD y m d) := ⟨a, b, c, g, k, l⟩
  have mb := ml_bd y m
  have nb := num_bd OK.out
  have z1 : (ml y m == 0) = false := by simp; omega
  have z2 : (num y m d == 0) = false := by simp; omega
  clear mb nb k l
  go_enter Tryd.func3, Tryd.ntmps3
  go_wp2_with fail
  have K0 := hK.alloc (.cells #[.int .i64 y, .int .i64 m, .int .i64 d] 23)
  have D0 := Dat.new w y m d 23
  refine (refDays_yes y m _ a b c g).mono ?_
  rintro e w' ⟨rfl, hw⟩
  subst hw
  go_wp2_with fail
  refine (days_yes y m _ K0.1 a b c g).mono ?_
  rintro e w' ⟨rfl, hw⟩
  subst hw
  go_wp2_with fail
  refine (error_nil0 _).mono ?_
  rintro e w1 ⟨rfl, hb⟩
  have K1 := K0.on hb
  have D1 := D0.on hb
  clear hb K0 D0
  obtain ⟨D_0, D_1, D_2⟩ := id D1
  have D_l := D1.lt
  go_wp2_with fail
  clear D_0 D_1 D_2 D_l
  refine (refOf_yes y m d _ OK.out).mono ?_
  rintro e w2 ⟨rfl, hb⟩
  have K2 := K1.on hb
  have D2 := D1.on hb
  clear hb K1 D1
  obtain ⟨D_0, D_1, D_2⟩ := id D2
  have D_l := D2.lt
  go_wp2_with fail
  clear D_0 D_1 D_2 D_l
  refine (of_yes y m d _ K2.1 OK.out).mono ?_
  rintro e w3 ⟨rfl, hb⟩
  have K3 := K2.on hb
  have D3 := D2.on hb
  clear hb K2 D2
  obtain ⟨D_0, D_1, D_2⟩ := id D3
  have D_l := D3.lt
  go_wp2_with fail
  clear D_0 D_1 D_2 D_l
  refine (error_nil0 _).mono ?_
  rintro e w4 ⟨rfl, hb⟩
  have K4 := K3.on hb
  have D4 := D3.on hb
  clear hb K3 D3
  obtain ⟨D_0, D_1, D_2⟩ := id D4
  have D_l := D4.lt
  go_wp2_with fail
  clear D_0 D_1 D_2 D_l
  refine (refDate_no n _ hn.out).mono ?_
  rintro e w5 ⟨rfl, hb⟩
  have K5 := K4.on hb
  have D5 := D4.on hb
  clear hb K4 D4
  obtain ⟨D_0, D_1, D_2⟩ := id D5
  have D_l := D5.lt
  go_wp2_with fail
  clear D_0 D_1 D_2 D_l
  have X6 := Dat.new w5 0 0 0 23
  have K6 := K5.alloc (.cells #[.int .i64 0, .int .i64 0, .int .i64 0] 23)
  have D6 := D5.alloc (.cells #[.int .i64 0, .int .i64 0, .int .i64 0] 23)
  clear K5 D5
  refine (date_no n _ hn.out).mono ?_
  rintro e w7 ⟨rfl, hb⟩
  have K7 := K6.on hb
  have D7 := D6.on hb
  have X7 := X6.on hb
  clear hb K6 D6 X6
  obtain ⟨D_0, D_1, D_2⟩ := id D7
  have D_l := D7.lt
  obtain ⟨X_0, X_1, X_2⟩ := id X7
  have X_l := X7.lt
  go_wp2_with fail
  clear D_0 D_1 D_2 D_l X_0 X_1 X_2 X_l
  have Y8 := Dat.new w7 0 0 0 23
  have K8 := K7.alloc (.cells #[.int .i64 0, .int .i64 0, .int .i64 0] 23)
  have D8 := D7.alloc (.cells #[.int .i64 0, .int .i64 0, .int .i64 0] 23)
  have X8 := X7.alloc (.cells #[.int .i64 0, .int .i64 0, .int .i64 0] 23)
  clear K7 D7 X7
  refine (error_range _ K8.2.1).mono ?_
  rintro e w9 ⟨rfl, hb⟩
  have K9 := K8.on hb
  have D9 := D8.on hb
  have X9 := X8.on hb
  have Y9 := Y8.on hb
  clear hb K8 D8 X8 Y8
  obtain ⟨D_0, D_1, D_2⟩ := id D9
  have D_l := D9.lt
  obtain ⟨X_0, X_1, X_2⟩ := id X9
  have X_l := X9.lt
  obtain ⟨Y_0, Y_1, Y_2⟩ := id Y9
  have Y_l := Y9.lt
  go_wp2_with fail
  clear D_0 D_1 D_2 D_l X_0 X_1 X_2 X_l Y_0 Y_1 Y_2 Y_l
  refine (weekday_no n _ hn.out).mono ?_
  rintro e w' ⟨rfl, hw⟩
  subst hw
  obtain ⟨D_0, D_1, D_2⟩ := id D9
  have D_l := D9.lt
  obtain ⟨X_0, X_1, X_2⟩ := id X9
  have X_l := X9.lt
  obtain ⟨Y_0, Y_1, Y_2⟩ := id Y9
  have Y_l := Y9.lt
  go_wp2_with fail
  clear D_0 D_1 D_2 D_l X_0 X_1 X_2 X_l Y_0 Y_1 Y_2 Y_l
  refine (error_range _ K9.2.1).mono ?_
  rintro e w10 ⟨rfl, hb⟩
  have K10 := K9.on hb
  have D10 := D9.on hb
  have X10 := X9.on hb
  have Y10 := Y9.on hb
  clear hb K9 D9 X9 Y9
  obtain ⟨D_0, D_1, D_2⟩ := id D10
  have D_l := D10.lt
  obtain ⟨X_0, X_1, X_2⟩ := id X10
  have X_l := X10.lt
  obtain ⟨Y_0, Y_1, Y_2⟩ := id Y10
  have Y_l := Y10.lt
  go_wp2_with fail
  go_quiet ((first | (go_at_call 15; exact Calls.quiet_of_same (leap_any _ _)) | (go_at_call 16; exact Calls.quiet_of_same (refLeap_any _ _)) | (go_at_call 17; exact Calls.quiet_of_same (last_any _))))
  go_wp2
  go_ret
  exact ⟨rfl, below_drewN K10.2.2 _⟩
set_option maxRecDepth 100000 in
set_option maxHeartbeats 4000000 in
theorem tells_bad_yes (y m d n : Int) (w : World) (hK : Keeps w w) (hd : ¬ okD y m d) (a : 1900 ≤ y) (b : y ≤ 2199) (c : 1 ≤ m) (g : m ≤ 12) (h1 : 1 ≤ n) (h2 : n ≤ 109573) :
    Calls Tryd.prog 3 #[.agg #[.int .i64 y, .int .i64 m, .int .i64 d], .int .i64 n] w fun e w' => e = .returned (.bool true) ∧ Below w.heap.size w w' := by
  have OK : Hid (¬ okD y m d) := hd
  have mb := ml_bd y m
  have z1 : (ml y m == 0) = false := by simp; omega
  clear mb hd
  go_enter Tryd.func3, Tryd.ntmps3
  go_wp2_with fail
  have K0 := hK.alloc (.cells #[.int .i64 y, .int .i64 m, .int .i64 d] 23)
  have D0 := Dat.new w y m d 23
  refine (refDays_yes y m _ a b c g).mono ?_
  rintro e w' ⟨rfl, hw⟩
  subst hw
  go_wp2_with fail
  refine (days_yes y m _ K0.1 a b c g).mono ?_
  rintro e w' ⟨rfl, hw⟩
  subst hw
  go_wp2_with fail
  refine (error_nil0 _).mono ?_
  rintro e w1 ⟨rfl, hb⟩
  have K1 := K0.on hb
  have D1 := D0.on hb
  clear hb K0 D0
  obtain ⟨D_0, D_1, D_2⟩ := id D1
  have D_l := D1.lt
  go_wp2_with fail
  clear D_0 D_1 D_2 D_l
  refine (refOf_no y m d _ OK.out).mono ?_
  rintro e w2 ⟨rfl, hb⟩
  have K2 := K1.on hb
  have D2 := D1.on hb
  clear hb K1 D1
  obtain ⟨D_0, D_1, D_2⟩ := id D2
  have D_l := D2.lt
  go_wp2_with fail
  clear D_0 D_1 D_2 D_l
  refine (of_no y m d _ K2.1 OK.out).mono ?_
  rintro e w3 ⟨rfl, hb⟩
  have K3 := K2.on hb
  have D3 := D2.on hb
  clear hb K2 D2
  obtain ⟨D_0, D_1, D_2⟩ := id D3
  have D_l := D3.lt
  go_wp2_with fail
  clear D_0 D_1 D_2 D_l
  refine (error_range _ K3.2.1).mono ?_
  rintro e w4 ⟨rfl, hb⟩
  have K4 := K3.on hb
  have D4 := D3.on hb
  clear hb K3 D3
  obtain ⟨D_0, D_1, D_2⟩ := id D4
  have D_l := D4.lt
  go_wp2_with fail
  clear D_0 D_1 D_2 D_l
  refine (refDate_yes n _ h1 h2).mono ?_
  rintro e w5 ⟨rfl, hb⟩
  have K5 := K4.on hb
  have D5 := D4.on hb
  clear hb K4 D4
  obtain ⟨D_0, D_1, D_2⟩ := id D5
  have D_l := D5.lt
  go_wp2_with fail
  clear D_0 D_1 D_2 D_l
  have X6 := Dat.new w5 (yr n) (mo n) (da n) 23
  have K6 := K5.alloc (.cells #[.int .i64 (yr n), .int .i64 (mo n), .int .i64 (da n)] 23)
  have D6 := D5.alloc (.cells #[.int .i64 (yr n), .int .i64 (mo n), .int .i64 (da n)] 23)
  clear K5 D5
  refine (refWeekday_any n _ h1 h2).mono ?_
  rintro e w' ⟨rfl, hw⟩
  subst hw
  obtain ⟨D_0, D_1, D_2⟩ := id D6
  have D_l := D6.lt
  obtain ⟨X_0, X_1, X_2⟩ := id X6
  have X_l := X6.lt
  go_wp2_with fail
  clear D_0 D_1 D_2 D_l X_0 X_1 X_2 X_l
  refine (date_yes n _ K6.1 h1 h2).mono ?_
  rintro e w7 ⟨rfl, hb⟩
  have K7 := K6.on hb
  have D7 := D6.on hb
  have X7 := X6.on hb
  clear hb K6 D6 X6
  obtain ⟨D_0, D_1, D_2⟩ := id D7
  have D_l := D7.lt
  obtain ⟨X_0, X_1, X_2⟩ := id X7
  have X_l := X7.lt
  go_wp2_with fail
  clear D_0 D_1 D_2 D_l X_0 X_1 X_2 X_l
  have Y8 := Dat.new w7 (yr n) (mo n) (da n) 23
  have K8 := K7.alloc (.cells #[.int .i64 (yr n), .int .i64 (mo n), .int .i64 (da n)] 23)
  have D8 := D7.alloc (.cells #[.int .i64 (yr n), .int .i64 (mo n), .int .i64 (da n)] 23)
  have X8 := X7.alloc (.cells #[.int .i64 (yr n), .int .i64 (mo n), .int .i64 (da n)] 23)
  clear K7 D7 X7
  refine (error_nil0 _).mono ?_
  rintro e w9 ⟨rfl, hb⟩
  have K9 := K8.on hb
  have D9 := D8.on hb
  have X9 := X8.on hb
  have Y9 := Y8.on hb
  clear hb K8 D8 X8 Y8
  obtain ⟨D_0, D_1, D_2⟩ := id D9
  have D_l := D9.lt
  obtain ⟨X_0, X_1, X_2⟩ := id X9
  have X_l := X9.lt
  obtain ⟨Y_0, Y_1, Y_2⟩ := id Y9
  have Y_l := Y9.lt
  go_wp2_with fail
  clear D_0 D_1 D_2 D_l X_0 X_1 X_2 X_l Y_0 Y_1 Y_2 Y_l
  refine (weekday_yes n _ h1 h2).mono ?_
  rintro e w' ⟨rfl, hw⟩
  subst hw
  obtain ⟨D_0, D_1, D_2⟩ := id D9
  have D_l := D9.lt
  obtain ⟨X_0, X_1, X_2⟩ := id X9
  have X_l := X9.lt
  obtain ⟨Y_0, Y_1, Y_2⟩ := id Y9
  have Y_l := Y9.lt
  go_wp2_with fail
  clear D_0 D_1 D_2 D_l X_0 X_1 X_2 X_l Y_0 Y_1 Y_2 Y_l
  refine (error_nil0 _).mono ?_
  rintro e w10 ⟨rfl, hb⟩
  have K10 := K9.on hb
  have D10 := D9.on hb
  have X10 := X9.on hb
  have Y10 := Y9.on hb
  clear hb K9 D9 X9 Y9
  obtain ⟨D_0, D_1, D_2⟩ := id D10
  have D_l := D10.lt
  obtain ⟨X_0, X_1, X_2⟩ := id X10
  have X_l := X10.lt
  obtain ⟨Y_0, Y_1, Y_2⟩ := id Y10
  have Y_l := Y10.lt
  go_wp2_with fail
  go_quiet ((first | (go_at_call 15; exact Calls.quiet_of_same (leap_any _ _)) | (go_at_call 16; exact Calls.quiet_of_same (refLeap_any _ _)) | (go_at_call 17; exact Calls.quiet_of_same (last_any _))))
  go_wp2
  go_ret
  exact ⟨rfl, below_drewN K10.2.2 _⟩
set_option maxRecDepth 100000 in
set_option maxHeartbeats 4000000 in
theorem tells_bad_no (y m d n : Int) (w : World) (hK : Keeps w w) (hd : ¬ okD y m d) (a : 1900 ≤ y) (b : y ≤ 2199) (c : 1 ≤ m) (g : m ≤ 12) (hn : Hid (¬ (1 ≤ n ∧ n ≤ 109573))) :
    Calls Tryd.prog 3 #[.agg #[.int .i64 y, .int .i64 m, .int .i64 d], .int .i64 n] w fun e w' => e = .returned (.bool true) ∧ Below w.heap.size w w' := by
  have OK : Hid (¬ okD y m d) := hd
  have mb := ml_bd y m
  have z1 : (ml y m == 0) = false := by simp; omega
  clear mb hd
  go_enter Tryd.func3, Tryd.ntmps3
  go_wp2_with fail
  have K0 := hK.alloc (.cells #[.int .i64 y, .int .i64 m, .int .i64 d] 23)
  have D0 := Dat.new w y m d 23
  refine (refDays_yes y m _ a b c g).mono ?_
  rintro e w' ⟨rfl, hw⟩
  subst hw
  go_wp2_with fail
  refine (days_yes y m _ K0.1 a b c g).mono ?_
  rintro e w' ⟨rfl, hw⟩
  subst hw
  go_wp2_with fail
  refine (error_nil0 _).mono ?_
  rintro e w1 ⟨rfl, hb⟩
  have K1 := K0.on hb
  have D1 := D0.on hb
  clear hb K0 D0
  obtain ⟨D_0, D_1, D_2⟩ := id D1
  have D_l := D1.lt
  go_wp2_with fail
  clear D_0 D_1 D_2 D_l
  refine (refOf_no y m d _ OK.out).mono ?_
  rintro e w2 ⟨rfl, hb⟩
  have K2 := K1.on hb
  have D2 := D1.on hb
  clear hb K1 D1
  obtain ⟨D_0, D_1, D_2⟩ := id D2
  have D_l := D2.lt
  go_wp2_with fail
  clear D_0 D_1 D_2 D_l
  refine (of_no y m d _ K2.1 OK.out).mono ?_
  rintro e w3 ⟨rfl, hb⟩
  have K3 := K2.on hb
  have D3 := D2.on hb
  clear hb K2 D2
  obtain ⟨D_0, D_1, D_2⟩ := id D3
  have D_l := D3.lt
  go_wp2_with fail
  clear D_0 D_1 D_2 D_l
  refine (error_range _ K3.2.1).mono ?_
  rintro e w4 ⟨rfl, hb⟩
  have K4 := K3.on hb
  have D4 := D3.on hb
  clear hb K3 D3
  obtain ⟨D_0, D_1, D_2⟩ := id D4
  have D_l := D4.lt
  go_wp2_with fail
  clear D_0 D_1 D_2 D_l
  refine (refDate_no n _ hn.out).mono ?_
  rintro e w5 ⟨rfl, hb⟩
  have K5 := K4.on hb
  have D5 := D4.on hb
  clear hb K4 D4
  obtain ⟨D_0, D_1, D_2⟩ := id D5
  have D_l := D5.lt
  go_wp2_with fail
  clear D_0 D_1 D_2 D_l
  have X6 := Dat.new w5 0 0 0 23
  have K6 := K5.alloc (.cells #[.int .i64 0, .int .i64 0, .int .i64 0] 23)
  have D6 := D5.alloc (.cells #[.int .i64 0, .int .i64 0, .int .i64 0] 23)
  clear K5 D5
  refine (date_no n _ hn.out).mono ?_
  rintro e w7 ⟨rfl, hb⟩
  have K7 := K6.on hb
  have D7 := D6.on hb
  have X7 := X6.on hb
  clear hb K6 D6 X6
  obtain ⟨D_0, D_1, D_2⟩ := id D7
  have D_l := D7.lt
  obtain ⟨X_0, X_1, X_2⟩ := id X7
  have X_l := X7.lt
  go_wp2_with fail
  clear D_0 D_1 D_2 D_l X_0 X_1 X_2 X_l
  have Y8 := Dat.new w7 0 0 0 23
  have K8 := K7.alloc (.cells #[.int .i64 0, .int .i64 0, .int .i64 0] 23)
  have D8 := D7.alloc (.cells #[.int .i64 0, .int .i64 0, .int .i64 0] 23)
  have X8 := X7.alloc (.cells #[.int .i64 0, .int .i64 0, .int .i64 0] 23)
  clear K7 D7 X7
  refine (error_range _ K8.2.1).mono ?_
  rintro e w9 ⟨rfl, hb⟩
  have K9 := K8.on hb
  have D9 := D8.on hb
  have X9 := X8.on hb
  have Y9 := Y8.on hb
  clear hb K8 D8 X8 Y8
  obtain ⟨D_0, D_1, D_2⟩ := id D9
  have D_l := D9.lt
  obtain ⟨X_0, X_1, X_2⟩ := id X9
  have X_l := X9.lt
  obtain ⟨Y_0, Y_1, Y_2⟩ := id Y9
  have Y_l := Y9.lt
  go_wp2_with fail
  clear D_0 D_1 D_2 D_l X_0 X_1 X_2 X_l Y_0 Y_1 Y_2 Y_l
  refine (weekday_no n _ hn.out).mono ?_
  rintro e w' ⟨rfl, hw⟩
  subst hw
  obtain ⟨D_0, D_1, D_2⟩ := id D9
  have D_l := D9.lt
  obtain ⟨X_0, X_1, X_2⟩ := id X9
  have X_l := X9.lt
  obtain ⟨Y_0, Y_1, Y_2⟩ := id Y9
  have Y_l := Y9.lt
  go_wp2_with fail
  clear D_0 D_1 D_2 D_l X_0 X_1 X_2 X_l Y_0 Y_1 Y_2 Y_l
  refine (error_range _ K9.2.1).mono ?_
  rintro e w10 ⟨rfl, hb⟩
  have K10 := K9.on hb
  have D10 := D9.on hb
  have X10 := X9.on hb
  have Y10 := Y9.on hb
  clear hb K9 D9 X9 Y9
  obtain ⟨D_0, D_1, D_2⟩ := id D10
  have D_l := D10.lt
  obtain ⟨X_0, X_1, X_2⟩ := id X10
  have X_l := X10.lt
  obtain ⟨Y_0, Y_1, Y_2⟩ := id Y10
  have Y_l := Y10.lt
  go_wp2_with fail
  go_quiet ((first | (go_at_call 15; exact Calls.quiet_of_same (leap_any _ _)) | (go_at_call 16; exact Calls.quiet_of_same (refLeap_any _ _)) | (go_at_call 17; exact Calls.quiet_of_same (last_any _))))
  go_wp2
  go_ret
  exact ⟨rfl, below_drewN K10.2.2 _⟩
set_option maxRecDepth 100000 in
set_option maxHeartbeats 4000000 in
theorem tells_none_yes (y m d n : Int) (w : World) (hK : Keeps w w) (nm : ¬ (1900 ≤ y ∧ y ≤ 2199 ∧ 1 ≤ m ∧ m ≤ 12)) (h1 : 1 ≤ n) (h2 : n ≤ 109573) :
    Calls Tryd.prog 3 #[.agg #[.int .i64 y, .int .i64 m, .int .i64 d], .int .i64 n] w fun e w' => e = .returned (.bool true) ∧ Below w.heap.size w w' := by
  have OK : Hid (¬ okD y m d) := fun k => nm ⟨k.1, k.2.1, k.2.2.1, k.2.2.2.1⟩
  go_enter Tryd.func3, Tryd.ntmps3
  go_wp2_with fail
  have K0 := hK.alloc (.cells #[.int .i64 y, .int .i64 m, .int .i64 d] 23)
  have D0 := Dat.new w y m d 23
  refine (refDays_no y m _ nm).mono ?_
  rintro e w' ⟨rfl, hw⟩
  subst hw
  go_wp2_with fail
  refine (days_no y m _ nm).mono ?_
  rintro e w' ⟨rfl, hw⟩
  subst hw
  go_wp2_with fail
  refine (error_range _ K0.2.1).mono ?_
  rintro e w1 ⟨rfl, hb⟩
  have K1 := K0.on hb
  have D1 := D0.on hb
  clear hb K0 D0
  obtain ⟨D_0, D_1, D_2⟩ := id D1
  have D_l := D1.lt
  go_wp2_with fail
  clear D_0 D_1 D_2 D_l
  refine (refOf_no y m d _ OK.out).mono ?_
  rintro e w2 ⟨rfl, hb⟩
  have K2 := K1.on hb
  have D2 := D1.on hb
  clear hb K1 D1
  obtain ⟨D_0, D_1, D_2⟩ := id D2
  have D_l := D2.lt
  go_wp2_with fail
  clear D_0 D_1 D_2 D_l
  refine (of_no y m d _ K2.1 OK.out).mono ?_
  rintro e w3 ⟨rfl, hb⟩
  have K3 := K2.on hb
  have D3 := D2.on hb
  clear hb K2 D2
  obtain ⟨D_0, D_1, D_2⟩ := id D3
  have D_l := D3.lt
  go_wp2_with fail
  clear D_0 D_1 D_2 D_l
  refine (error_range _ K3.2.1).mono ?_
  rintro e w4 ⟨rfl, hb⟩
  have K4 := K3.on hb
  have D4 := D3.on hb
  clear hb K3 D3
  obtain ⟨D_0, D_1, D_2⟩ := id D4
  have D_l := D4.lt
  go_wp2_with fail
  clear D_0 D_1 D_2 D_l
  refine (refDate_yes n _ h1 h2).mono ?_
  rintro e w5 ⟨rfl, hb⟩
  have K5 := K4.on hb
  have D5 := D4.on hb
  clear hb K4 D4
  obtain ⟨D_0, D_1, D_2⟩ := id D5
  have D_l := D5.lt
  go_wp2_with fail
  clear D_0 D_1 D_2 D_l
  have X6 := Dat.new w5 (yr n) (mo n) (da n) 23
  have K6 := K5.alloc (.cells #[.int .i64 (yr n), .int .i64 (mo n), .int .i64 (da n)] 23)
  have D6 := D5.alloc (.cells #[.int .i64 (yr n), .int .i64 (mo n), .int .i64 (da n)] 23)
  clear K5 D5
  refine (refWeekday_any n _ h1 h2).mono ?_
  rintro e w' ⟨rfl, hw⟩
  subst hw
  obtain ⟨D_0, D_1, D_2⟩ := id D6
  have D_l := D6.lt
  obtain ⟨X_0, X_1, X_2⟩ := id X6
  have X_l := X6.lt
  go_wp2_with fail
  clear D_0 D_1 D_2 D_l X_0 X_1 X_2 X_l
  refine (date_yes n _ K6.1 h1 h2).mono ?_
  rintro e w7 ⟨rfl, hb⟩
  have K7 := K6.on hb
  have D7 := D6.on hb
  have X7 := X6.on hb
  clear hb K6 D6 X6
  obtain ⟨D_0, D_1, D_2⟩ := id D7
  have D_l := D7.lt
  obtain ⟨X_0, X_1, X_2⟩ := id X7
  have X_l := X7.lt
  go_wp2_with fail
  clear D_0 D_1 D_2 D_l X_0 X_1 X_2 X_l
  have Y8 := Dat.new w7 (yr n) (mo n) (da n) 23
  have K8 := K7.alloc (.cells #[.int .i64 (yr n), .int .i64 (mo n), .int .i64 (da n)] 23)
  have D8 := D7.alloc (.cells #[.int .i64 (yr n), .int .i64 (mo n), .int .i64 (da n)] 23)
  have X8 := X7.alloc (.cells #[.int .i64 (yr n), .int .i64 (mo n), .int .i64 (da n)] 23)
  clear K7 D7 X7
  refine (error_nil0 _).mono ?_
  rintro e w9 ⟨rfl, hb⟩
  have K9 := K8.on hb
  have D9 := D8.on hb
  have X9 := X8.on hb
  have Y9 := Y8.on hb
  clear hb K8 D8 X8 Y8
  obtain ⟨D_0, D_1, D_2⟩ := id D9
  have D_l := D9.lt
  obtain ⟨X_0, X_1, X_2⟩ := id X9
  have X_l := X9.lt
  obtain ⟨Y_0, Y_1, Y_2⟩ := id Y9
  have Y_l := Y9.lt
  go_wp2_with fail
  clear D_0 D_1 D_2 D_l X_0 X_1 X_2 X_l Y_0 Y_1 Y_2 Y_l
  refine (weekday_yes n _ h1 h2).mono ?_
  rintro e w' ⟨rfl, hw⟩
  subst hw
  obtain ⟨D_0, D_1, D_2⟩ := id D9
  have D_l := D9.lt
  obtain ⟨X_0, X_1, X_2⟩ := id X9
  have X_l := X9.lt
  obtain ⟨Y_0, Y_1, Y_2⟩ := id Y9
  have Y_l := Y9.lt
  go_wp2_with fail
  clear D_0 D_1 D_2 D_l X_0 X_1 X_2 X_l Y_0 Y_1 Y_2 Y_l
  refine (error_nil0 _).mono ?_
  rintro e w10 ⟨rfl, hb⟩
  have K10 := K9.on hb
  have D10 := D9.on hb
  have X10 := X9.on hb
  have Y10 := Y9.on hb
  clear hb K9 D9 X9 Y9
  obtain ⟨D_0, D_1, D_2⟩ := id D10
  have D_l := D10.lt
  obtain ⟨X_0, X_1, X_2⟩ := id X10
  have X_l := X10.lt
  obtain ⟨Y_0, Y_1, Y_2⟩ := id Y10
  have Y_l := Y10.lt
  go_wp2_with fail
  go_quiet ((first | (go_at_call 15; exact Calls.quiet_of_same (leap_any _ _)) | (go_at_call 16; exact Calls.quiet_of_same (refLeap_any _ _)) | (go_at_call 17; exact Calls.quiet_of_same (last_any _))))
  go_wp2
  go_ret
  exact ⟨rfl, below_drewN K10.2.2 _⟩
set_option maxRecDepth 100000 in
set_option maxHeartbeats 4000000 in
theorem tells_none_no (y m d n : Int) (w : World) (hK : Keeps w w) (nm : ¬ (1900 ≤ y ∧ y ≤ 2199 ∧ 1 ≤ m ∧ m ≤ 12)) (hn : Hid (¬ (1 ≤ n ∧ n ≤ 109573))) :
    Calls Tryd.prog 3 #[.agg #[.int .i64 y, .int .i64 m, .int .i64 d], .int .i64 n] w fun e w' => e = .returned (.bool true) ∧ Below w.heap.size w w' := by
  have OK : Hid (¬ okD y m d) := fun k => nm ⟨k.1, k.2.1, k.2.2.1, k.2.2.2.1⟩
  go_enter Tryd.func3, Tryd.ntmps3
  go_wp2_with fail
  have K0 := hK.alloc (.cells #[.int .i64 y, .int .i64 m, .int .i64 d] 23)
  have D0 := Dat.new w y m d 23
  refine (refDays_no y m _ nm).mono ?_
  rintro e w' ⟨rfl, hw⟩
  subst hw
  go_wp2_with fail
  refine (days_no y m _ nm).mono ?_
  rintro e w' ⟨rfl, hw⟩
  subst hw
  go_wp2_with fail
  refine (error_range _ K0.2.1).mono ?_
  rintro e w1 ⟨rfl, hb⟩
  have K1 := K0.on hb
  have D1 := D0.on hb
  clear hb K0 D0
  obtain ⟨D_0, D_1, D_2⟩ := id D1
  have D_l := D1.lt
  go_wp2_with fail
  clear D_0 D_1 D_2 D_l
  refine (refOf_no y m d _ OK.out).mono ?_
  rintro e w2 ⟨rfl, hb⟩
  have K2 := K1.on hb
  have D2 := D1.on hb
  clear hb K1 D1
  obtain ⟨D_0, D_1, D_2⟩ := id D2
  have D_l := D2.lt
  go_wp2_with fail
  clear D_0 D_1 D_2 D_l
  refine (of_no y m d _ K2.1 OK.out).mono ?_
  rintro e w3 ⟨rfl, hb⟩
  have K3 := K2.on hb
  have D3 := D2.on hb
  clear hb K2 D2
  obtain ⟨D_0, D_1, D_2⟩ := id D3
  have D_l := D3.lt
  go_wp2_with fail
  clear D_0 D_1 D_2 D_l
  refine (error_range _ K3.2.1).mono ?_
  rintro e w4 ⟨rfl, hb⟩
  have K4 := K3.on hb
  have D4 := D3.on hb
  clear hb K3 D3
  obtain ⟨D_0, D_1, D_2⟩ := id D4
  have D_l := D4.lt
  go_wp2_with fail
  clear D_0 D_1 D_2 D_l
  refine (refDate_no n _ hn.out).mono ?_
  rintro e w5 ⟨rfl, hb⟩
  have K5 := K4.on hb
  have D5 := D4.on hb
  clear hb K4 D4
  obtain ⟨D_0, D_1, D_2⟩ := id D5
  have D_l := D5.lt
  go_wp2_with fail
  clear D_0 D_1 D_2 D_l
  have X6 := Dat.new w5 0 0 0 23
  have K6 := K5.alloc (.cells #[.int .i64 0, .int .i64 0, .int .i64 0] 23)
  have D6 := D5.alloc (.cells #[.int .i64 0, .int .i64 0, .int .i64 0] 23)
  clear K5 D5
  refine (date_no n _ hn.out).mono ?_
  rintro e w7 ⟨rfl, hb⟩
  have K7 := K6.on hb
  have D7 := D6.on hb
  have X7 := X6.on hb
  clear hb K6 D6 X6
  obtain ⟨D_0, D_1, D_2⟩ := id D7
  have D_l := D7.lt
  obtain ⟨X_0, X_1, X_2⟩ := id X7
  have X_l := X7.lt
  go_wp2_with fail
  clear D_0 D_1 D_2 D_l X_0 X_1 X_2 X_l
  have Y8 := Dat.new w7 0 0 0 23
  have K8 := K7.alloc (.cells #[.int .i64 0, .int .i64 0, .int .i64 0] 23)
  have D8 := D7.alloc (.cells #[.int .i64 0, .int .i64 0, .int .i64 0] 23)
  have X8 := X7.alloc (.cells #[.int .i64 0, .int .i64 0, .int .i64 0] 23)
  clear K7 D7 X7
  refine (error_range _ K8.2.1).mono ?_
  rintro e w9 ⟨rfl, hb⟩
  have K9 := K8.on hb
  have D9 := D8.on hb
  have X9 := X8.on hb
  have Y9 := Y8.on hb
  clear hb K8 D8 X8 Y8
  obtain ⟨D_0, D_1, D_2⟩ := id D9
  have D_l := D9.lt
  obtain ⟨X_0, X_1, X_2⟩ := id X9
  have X_l := X9.lt
  obtain ⟨Y_0, Y_1, Y_2⟩ := id Y9
  have Y_l := Y9.lt
  go_wp2_with fail
  clear D_0 D_1 D_2 D_l X_0 X_1 X_2 X_l Y_0 Y_1 Y_2 Y_l
  refine (weekday_no n _ hn.out).mono ?_
  rintro e w' ⟨rfl, hw⟩
  subst hw
  obtain ⟨D_0, D_1, D_2⟩ := id D9
  have D_l := D9.lt
  obtain ⟨X_0, X_1, X_2⟩ := id X9
  have X_l := X9.lt
  obtain ⟨Y_0, Y_1, Y_2⟩ := id Y9
  have Y_l := Y9.lt
  go_wp2_with fail
  clear D_0 D_1 D_2 D_l X_0 X_1 X_2 X_l Y_0 Y_1 Y_2 Y_l
  refine (error_range _ K9.2.1).mono ?_
  rintro e w10 ⟨rfl, hb⟩
  have K10 := K9.on hb
  have D10 := D9.on hb
  have X10 := X9.on hb
  have Y10 := Y9.on hb
  clear hb K9 D9 X9 Y9
  obtain ⟨D_0, D_1, D_2⟩ := id D10
  have D_l := D10.lt
  obtain ⟨X_0, X_1, X_2⟩ := id X10
  have X_l := X10.lt
  obtain ⟨Y_0, Y_1, Y_2⟩ := id Y10
  have Y_l := Y10.lt
  go_wp2_with fail
  go_quiet ((first | (go_at_call 15; exact Calls.quiet_of_same (leap_any _ _)) | (go_at_call 16; exact Calls.quiet_of_same (refLeap_any _ _)) | (go_at_call 17; exact Calls.quiet_of_same (last_any _))))
  go_wp2
  go_ret
  exact ⟨rfl, below_drewN K10.2.2 _⟩
end Go.Proofs.YtpoajofkodgmhaaDoor
