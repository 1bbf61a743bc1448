/-
  Presses and backs that are not as they must be: each exported function hands the error back. The reference: backs that are turned, alike, and turns with which they stay. The reference at presses and backs that are not as they must be: the error is handed back.
-/
import Derived.Test.YtbcbaaapogejiaaDoorRefB
import Derived.Test.YtbcbaaapogejiaaDoorExpC
namespace Go.Proofs.YtbcbaaapogejiaaDoor
open Go.RowKit

/-- A list and an error are handed back. -/
def RetIE (w : World) (l : List Int) (E : Int) (e : Ending) (w' : World) : Prop := ∃ A c, e = .returned (.tuple #[.slice A l.length c, .int .i64 E]) ∧ IntsAt w' w'.heap.size A l ∧ Below w.heap.size w w'
/-- Lists and an error are handed back. -/
def RetLE (w : World) (l : List (List Int)) (E : Int) (e : Ending) (w' : World) : Prop := ∃ A c, e = .returned (.tuple #[.slice A l.length c, .int .i64 E]) ∧ ListsAt w' w'.heap.size A l ∧ Below w.heap.size w w'
/-- A number and an error are handed back. -/
def RetNE (w : World) (n : Int) (E : Int) (e : Ending) (w' : World) : Prop := e = .returned (.tuple #[.int .i64 n, .int .i64 E]) ∧ Below w.heap.size w w'

def PlateErr (w : World) (E : Int) (e : Ending) (w' : World) : Prop := e = .returned (.tuple #[.agg #[.int .i64 0, .int .i64 0, .int .i64 0, .slice none 0 0, .slice none 0 0], .int .i64 E]) ∧ Below w.heap.size w w'

theorem plate0_err (R C K : Int) (A : Option Addr) (c : Nat) (T : List Int) (W : World) (hm : MovW W) (hA : IntsAt W W.heap.size A T) (hn : T.length < 1000) (h : chkE R C K T ≠ 0) :
    Calls Tryd.prog 74 #[.agg #[.int .i64 R, .int .i64 C, .int .i64 K, .slice A T.length c], .slice none 0 0] W (PlateErr W (chkE R C K T)) :=
  plate_bad R C K A none c 0 0 T W hm hA hn h
theorem plate1_err (R C K : Int) (A X : Option Addr) (c xc : Nat) (T x : List Int) (W : World) (hm : MovW W) (hA : IntsAt W W.heap.size A T) (hX : IntsAt W W.heap.size X x) (hn : T.length < 1000) (hx : x.length < 1000) (h : valE R C K T x ≠ 0) :
    Calls Tryd.prog 74 #[.agg #[.int .i64 R, .int .i64 C, .int .i64 K, .slice A T.length c], .slice (some ⟨W.heap.size, 0, none⟩) 1 1] (W.alloc (.cells #[.slice X x.length xc] 22)) (PlateErr (W.alloc (.cells #[.slice X x.length xc] 22)) (valE R C K T x)) := by
  have hb := below_new W (.cells #[.slice X x.length xc] 22)
  by_cases h0 : chkE R C K T = 0
  · obtain ⟨p, hp, rfl, rfl, rfl, rfl⟩ := ok_of_chk h0
    rw [valE_ok h0] at *
    rw [show ((p.R : Int) * (p.C : Int)).toNat = p.n by unfold Pr.n; rw [← Int.natCast_mul]; rfl] at *
    have e : bksE p.n p.K chkB [x] = chkB p.n p.K x := by rw [bksE, if_neg h]
    have h1 := plate_err p hp A (some ⟨W.heap.size, 0, none⟩) c 1 [x] _ (hm.below hb) (hA.up hb) (lists_one hX) (fun b hb => by rw [List.mem_singleton.1 hb]; exact hx) (by simp) (by rw [e]; exact h)
    rw [e] at h1
    rw [intsN_len]
    exact h1
  · rw [valE_bad h0]
    exact plate_bad R C K A _ c 1 1 T _ (hm.below hb) (hA.up hb) hn h0
theorem plate2_err (R C K : Int) (A X Y : Option Addr) (c xc yc : Nat) (T x y : List Int) (W : World) (hm : MovW W) (hA : IntsAt W W.heap.size A T) (hX : IntsAt W W.heap.size X x) (hY : IntsAt W W.heap.size Y y) (hn : T.length < 1000) (hx : x.length < 1000) (hy : y.length < 1000) (E : Int) (hE : E = if valE R C K T x = 0 then valE R C K T y else valE R C K T x) (h : E ≠ 0) :
    Calls Tryd.prog 74 #[.agg #[.int .i64 R, .int .i64 C, .int .i64 K, .slice A T.length c], .slice (some ⟨W.heap.size, 0, none⟩) 2 2] (W.alloc (.cells #[.slice X x.length xc, .slice Y y.length yc] 22)) (PlateErr (W.alloc (.cells #[.slice X x.length xc, .slice Y y.length yc] 22)) E) := by
  have hb := below_new W (.cells #[.slice X x.length xc, .slice Y y.length yc] 22)
  by_cases h0 : chkE R C K T = 0
  · obtain ⟨p, hp, rfl, rfl, rfl, rfl⟩ := ok_of_chk h0
    rw [valE_ok h0, valE_ok h0] at hE
    rw [show ((p.R : Int) * (p.C : Int)).toNat = p.n by unfold Pr.n; rw [← Int.natCast_mul]; rfl] at hE
    have e : bksE p.n p.K chkB [x, y] = E := by
      rw [hE, bksE]
      by_cases hx0 : chkB p.n p.K x = 0
      · rw [if_pos hx0, if_pos hx0, bksE]
        by_cases hy0 : chkB p.n p.K y = 0
        · rw [if_pos hy0, hy0]; rfl
        · rw [if_neg hy0]
      · rw [if_neg hx0, if_neg hx0]
    have h1 := plate_err p hp A (some ⟨W.heap.size, 0, none⟩) c 2 [x, y] _ (hm.below hb) (hA.up hb) (lists_two hX hY) (fun b hb => by
      rcases List.mem_cons.1 hb with e | hb
      · rw [e]; exact hx
      · rw [List.mem_singleton.1 hb]; exact hy) (by simp) (by rw [e]; exact h)
    rw [e] at h1
    rw [intsN_len]
    exact h1
  · rw [valE_bad h0, valE_bad h0, if_neg h0] at hE
    rw [hE]
    exact plate_bad R C K A _ c 2 2 T _ (hm.below hb) (hA.up hb) hn h0

set_option maxRecDepth 100000 in
theorem turn_err (R C K : Int) (A X : Option Addr) (c xc : Nat) (T x : List Int) (t : Int) (w : World) (hm : MovW w) (hA : IntsAt w w.heap.size A T) (hX : IntsAt w w.heap.size X x) (hn : T.length < 1000) (hx : x.length < 1000) (h : valE R C K T x ≠ 0) :
    Calls Tryd.prog 23 #[.agg #[.int .i64 R, .int .i64 C, .int .i64 K, .slice A T.length c], .slice X x.length xc, .int .i64 t] w (RetIE w [] (valE R C K T x)) := by
  have hb1 := below_new w (.cells #[.int .i64 R, .int .i64 C, .int .i64 K, .slice A T.length c] 24)
  have HP := Lib.hid (plate1_err R C K A X c xc T x _ (hm.below hb1) (hA.up hb1) (hX.up hb1) hn hx h)
  have hbx := hb1.trans ((below_new (w.alloc (.cells #[.int .i64 R, .int .i64 C, .int .i64 K, .slice A T.length c] 24)) (.cells #[.slice X x.length xc] 22)).mono hb1.size)
  simp only [World.size_alloc] at HP
  have hne : (valE R C K T x != 0) = true := by simpa using h
  generalize valE R C K T x = E at *
  clear hm hA hX h
  go_enter Tryd.func23, Tryd.ntmps23
  go_wp2_with (go_at_call 74; refine (HP.out).mono ?_; rintro e w1 ⟨rfl, hb2⟩; have hb3 := hbx.trans (hb2.mono hbx.size))
  go_ret2
  exact ⟨none, 0, rfl, IntsAt.nil _ _ _, hb3.alloc hb3.size _⟩

set_option maxRecDepth 100000 in
theorem alike_err (R C K : Int) (A X Y : Option Addr) (c xc yc : Nat) (T x y : List Int) (w : World) (hm : MovW w) (hA : IntsAt w w.heap.size A T) (hX : IntsAt w w.heap.size X x) (hY : IntsAt w w.heap.size Y y) (hn : T.length < 1000) (hx : x.length < 1000) (hy : y.length < 1000) (E : Int) (hE : E = if valE R C K T x = 0 then valE R C K T y else valE R C K T x) (h : E ≠ 0) :
    Calls Tryd.prog 25 #[.agg #[.int .i64 R, .int .i64 C, .int .i64 K, .slice A T.length c], .slice X x.length xc, .slice Y y.length yc] w (RetNE w 0 E) := by
  have hb1 := below_new w (.cells #[.int .i64 R, .int .i64 C, .int .i64 K, .slice A T.length c] 24)
  have HP := Lib.hid (plate2_err R C K A X Y c xc yc T x y _ (hm.below hb1) (hA.up hb1) (hX.up hb1) (hY.up hb1) hn hx hy E hE h)
  have hbx := hb1.trans ((below_new (w.alloc (.cells #[.int .i64 R, .int .i64 C, .int .i64 K, .slice A T.length c] 24)) (.cells #[.slice X x.length xc, .slice Y y.length yc] 22)).mono hb1.size)
  simp only [World.size_alloc] at HP
  have hne : (E != 0) = true := by simpa using h
  clear hm hA hX hY h hE
  go_enter Tryd.func25, Tryd.ntmps25
  go_wp2_with (go_at_call 74; refine (HP.out).mono ?_; rintro e w1 ⟨rfl, hb2⟩; have hb3 := hbx.trans (hb2.mono hbx.size))
  go_ret2
  exact ⟨rfl, hb3.alloc hb3.size _⟩

set_option maxRecDepth 100000 in
theorem stays_err (R C K : Int) (A X : Option Addr) (c xc : Nat) (T x : List Int) (w : World) (hm : MovW w) (hA : IntsAt w w.heap.size A T) (hX : IntsAt w w.heap.size X x) (hn : T.length < 1000) (hx : x.length < 1000) (h : valE R C K T x ≠ 0) :
    Calls Tryd.prog 27 #[.agg #[.int .i64 R, .int .i64 C, .int .i64 K, .slice A T.length c], .slice X x.length xc] w (RetIE w [] (valE R C K T x)) := by
  have hb1 := below_new w (.cells #[.int .i64 R, .int .i64 C, .int .i64 K, .slice A T.length c] 24)
  have HP := Lib.hid (plate1_err R C K A X c xc T x _ (hm.below hb1) (hA.up hb1) (hX.up hb1) hn hx h)
  have hbx := hb1.trans ((below_new (w.alloc (.cells #[.int .i64 R, .int .i64 C, .int .i64 K, .slice A T.length c] 24)) (.cells #[.slice X x.length xc] 22)).mono hb1.size)
  simp only [World.size_alloc] at HP
  have hne : (valE R C K T x != 0) = true := by simpa using h
  generalize valE R C K T x = E at *
  clear hm hA hX h
  go_enter Tryd.func27, Tryd.ntmps27
  go_wp2_with (go_at_call 74; refine (HP.out).mono ?_; rintro e w1 ⟨rfl, hb2⟩; have hb3 := hbx.trans (hb2.mono hbx.size))
  go_ret2
  exact ⟨none, 0, rfl, IntsAt.nil _ _ _, hb3.alloc hb3.size _⟩

set_option maxRecDepth 100000 in
theorem first_err (R C K : Int) (A X : Option Addr) (c xc : Nat) (T x : List Int) (w : World) (hm : MovW w) (hA : IntsAt w w.heap.size A T) (hX : IntsAt w w.heap.size X x) (hn : T.length < 1000) (hx : x.length < 1000) (h : valE R C K T x ≠ 0) :
    Calls Tryd.prog 30 #[.agg #[.int .i64 R, .int .i64 C, .int .i64 K, .slice A T.length c], .slice X x.length xc] w (RetIE w [] (valE R C K T x)) := by
  have hb1 := below_new w (.cells #[.int .i64 R, .int .i64 C, .int .i64 K, .slice A T.length c] 24)
  have HP := Lib.hid (plate1_err R C K A X c xc T x _ (hm.below hb1) (hA.up hb1) (hX.up hb1) hn hx h)
  have hbx := hb1.trans ((below_new (w.alloc (.cells #[.int .i64 R, .int .i64 C, .int .i64 K, .slice A T.length c] 24)) (.cells #[.slice X x.length xc] 22)).mono hb1.size)
  simp only [World.size_alloc] at HP
  have hne : (valE R C K T x != 0) = true := by simpa using h
  generalize valE R C K T x = E at *
  clear hm hA hX h
  go_enter Tryd.func30, Tryd.ntmps30
  go_wp2_with (go_at_call 74; refine (HP.out).mono ?_; rintro e w1 ⟨rfl, hb2⟩; have hb3 := hbx.trans (hb2.mono hbx.size))
  go_ret2
  exact ⟨none, 0, rfl, IntsAt.nil _ _ _, hb3.alloc hb3.size _⟩

set_option maxRecDepth 100000 in
theorem kin_err (R C K : Int) (A X : Option Addr) (c xc : Nat) (T x : List Int) (w : World) (hm : MovW w) (hA : IntsAt w w.heap.size A T) (hX : IntsAt w w.heap.size X x) (hn : T.length < 1000) (hx : x.length < 1000) (h : valE R C K T x ≠ 0) :
    Calls Tryd.prog 32 #[.agg #[.int .i64 R, .int .i64 C, .int .i64 K, .slice A T.length c], .slice X x.length xc] w (RetLE w [] (valE R C K T x)) := by
  have hb1 := below_new w (.cells #[.int .i64 R, .int .i64 C, .int .i64 K, .slice A T.length c] 24)
  have HP := Lib.hid (plate1_err R C K A X c xc T x _ (hm.below hb1) (hA.up hb1) (hX.up hb1) hn hx h)
  have hbx := hb1.trans ((below_new (w.alloc (.cells #[.int .i64 R, .int .i64 C, .int .i64 K, .slice A T.length c] 24)) (.cells #[.slice X x.length xc] 22)).mono hb1.size)
  simp only [World.size_alloc] at HP
  have hne : (valE R C K T x != 0) = true := by simpa using h
  generalize valE R C K T x = E at *
  clear hm hA hX h
  go_enter Tryd.func32, Tryd.ntmps32
  go_wp2_with (go_at_call 74; refine (HP.out).mono ?_; rintro e w1 ⟨rfl, hb2⟩; have hb3 := hbx.trans (hb2.mono hbx.size))
  go_ret2
  exact ⟨none, 0, rfl, ListsAt.nil _ _ _, hb3.alloc hb3.size _⟩

set_option maxRecDepth 100000 in
theorem staying_err (R C K : Int) (A : Option Addr) (c : Nat) (T : List Int) (t : Int) (w : World) (hm : MovW w) (hA : IntsAt w w.heap.size A T) (hn : T.length < 1000) (h : chkE R C K T ≠ 0) :
    Calls Tryd.prog 35 #[.agg #[.int .i64 R, .int .i64 C, .int .i64 K, .slice A T.length c], .int .i64 t] w (RetNE w 0 (chkE R C K T)) := by
  have hb1 := below_new w (.cells #[.int .i64 R, .int .i64 C, .int .i64 K, .slice A T.length c] 24)
  have HP := Lib.hid (plate0_err R C K A c T _ (hm.below hb1) (hA.up hb1) hn h)
  have hbx := hb1
  have hne : (chkE R C K T != 0) = true := by simpa using h
  generalize chkE R C K T = E at *
  clear hm hA h
  go_enter Tryd.func35, Tryd.ntmps35
  go_wp2_with (go_at_call 74; refine (HP.out).mono ?_; rintro e w1 ⟨rfl, hb2⟩; have hb3 := hbx.trans (hb2.mono hbx.size))
  go_ret2
  exact ⟨rfl, hb3.alloc hb3.size _⟩

set_option maxRecDepth 100000 in
theorem count_err (R C K : Int) (A : Option Addr) (c : Nat) (T : List Int) (w : World) (hm : MovW w) (hA : IntsAt w w.heap.size A T) (hn : T.length < 1000) (h : chkE R C K T ≠ 0) :
    Calls Tryd.prog 37 #[.agg #[.int .i64 R, .int .i64 C, .int .i64 K, .slice A T.length c]] w (RetNE w 0 (chkE R C K T)) := by
  have hb1 := below_new w (.cells #[.int .i64 R, .int .i64 C, .int .i64 K, .slice A T.length c] 24)
  have HP := Lib.hid (plate0_err R C K A c T _ (hm.below hb1) (hA.up hb1) hn h)
  have hbx := hb1
  have hne : (chkE R C K T != 0) = true := by simpa using h
  generalize chkE R C K T = E at *
  clear hm hA h
  go_enter Tryd.func37, Tryd.ntmps37
  go_wp2_with (go_at_call 74; refine (HP.out).mono ?_; rintro e w1 ⟨rfl, hb2⟩; have hb3 := hbx.trans (hb2.mono hbx.size))
  go_ret2
  exact ⟨rfl, hb3.alloc hb3.size _⟩

set_option maxRecDepth 100000 in
theorem with_err (R C K : Int) (A : Option Addr) (c : Nat) (T : List Int) (X : Option Addr) (xn xc : Nat) (w : World) (hm : MovW w) (hA : IntsAt w w.heap.size A T) (hn : T.length < 1000) (h : chkE R C K T ≠ 0) :
    Calls Tryd.prog 39 #[.agg #[.int .i64 R, .int .i64 C, .int .i64 K, .slice A T.length c], .slice X xn xc] w (RetNE w 0 (chkE R C K T)) := by
  have hb1 := below_new w (.cells #[.int .i64 R, .int .i64 C, .int .i64 K, .slice A T.length c] 24)
  have hbx := hb1.trans ((below_new (w.alloc (.cells #[.int .i64 R, .int .i64 C, .int .i64 K, .slice A T.length c] 24)) (.cells #[.slice X xn xc] 22)).mono hb1.size)
  have HP := Lib.hid (plate0_err R C K A c T _ (hm.below hbx) (hA.up hbx) hn h)
  have hne : (chkE R C K T != 0) = true := by simpa using h
  generalize chkE R C K T = E at *
  clear hm hA h
  go_enter Tryd.func39, Tryd.ntmps39
  go_wp2_with (go_at_call 74; refine (HP.out).mono ?_; rintro e w1 ⟨rfl, hb2⟩; have hb3 := hbx.trans (hb2.mono hbx.size))
  go_ret2
  exact ⟨rfl, hb3.alloc hb3.size _⟩

set_option maxRecDepth 100000 in
theorem all_err (R C K : Int) (A : Option Addr) (c : Nat) (T : List Int) (w : World) (hm : MovW w) (hA : IntsAt w w.heap.size A T) (hn : T.length < 1000) (h : chkE R C K T ≠ 0) :
    Calls Tryd.prog 41 #[.agg #[.int .i64 R, .int .i64 C, .int .i64 K, .slice A T.length c]] w (RetLE w [] (chkE R C K T)) := by
  have hb1 := below_new w (.cells #[.int .i64 R, .int .i64 C, .int .i64 K, .slice A T.length c] 24)
  have HP := Lib.hid (plate0_err R C K A c T _ (hm.below hb1) (hA.up hb1) hn h)
  have hbx := hb1
  have hne : (chkE R C K T != 0) = true := by simpa using h
  generalize chkE R C K T = E at *
  clear hm hA h
  go_enter Tryd.func41, Tryd.ntmps41
  go_wp2_with (go_at_call 74; refine (HP.out).mono ?_; rintro e w1 ⟨rfl, hb2⟩; have hb3 := hbx.trans (hb2.mono hbx.size))
  go_ret2
  exact ⟨none, 0, rfl, ListsAt.nil _ _ _, hb3.alloc hb3.size _⟩

set_option maxRecDepth 100000 in
theorem cells_err (R C K : Int) (A X : Option Addr) (c xc : Nat) (T x : List Int) (w : World) (hm : MovW w) (hA : IntsAt w w.heap.size A T) (hX : IntsAt w w.heap.size X x) (hn : T.length < 1000) (hx : x.length < 1000) (h : valE R C K T x ≠ 0) :
    Calls Tryd.prog 43 #[.agg #[.int .i64 R, .int .i64 C, .int .i64 K, .slice A T.length c], .slice X x.length xc] w (RetIE w [] (valE R C K T x)) := by
  have hb1 := below_new w (.cells #[.int .i64 R, .int .i64 C, .int .i64 K, .slice A T.length c] 24)
  have HP := Lib.hid (plate1_err R C K A X c xc T x _ (hm.below hb1) (hA.up hb1) (hX.up hb1) hn hx h)
  have hbx := hb1.trans ((below_new (w.alloc (.cells #[.int .i64 R, .int .i64 C, .int .i64 K, .slice A T.length c] 24)) (.cells #[.slice X x.length xc] 22)).mono hb1.size)
  simp only [World.size_alloc] at HP
  have hne : (valE R C K T x != 0) = true := by simpa using h
  generalize valE R C K T x = E at *
  clear hm hA hX h
  go_enter Tryd.func43, Tryd.ntmps43
  go_wp2_with (go_at_call 74; refine (HP.out).mono ?_; rintro e w1 ⟨rfl, hb2⟩; have hb3 := hbx.trans (hb2.mono hbx.size))
  go_ret2
  exact ⟨none, 0, rfl, IntsAt.nil _ _ _, hb3.alloc hb3.size _⟩

set_option maxRecDepth 100000 in
theorem shows_err (R C K : Int) (A X : Option Addr) (c xc : Nat) (T x : List Int) (Y : Option Addr) (yn yc : Nat) (w : World) (hm : MovW w) (hA : IntsAt w w.heap.size A T) (hX : IntsAt w w.heap.size X x) (hn : T.length < 1000) (hx : x.length < 1000) (h : valE R C K T x ≠ 0) :
    Calls Tryd.prog 45 #[.agg #[.int .i64 R, .int .i64 C, .int .i64 K, .slice A T.length c], .slice X x.length xc, .slice Y yn yc] w (fun e w' => e = .returned (.int .i64 (valE R C K T x)) ∧ Below w.heap.size w w') := by
  have hb1 := below_new w (.cells #[.int .i64 R, .int .i64 C, .int .i64 K, .slice A T.length c] 24)
  have HP := Lib.hid (plate1_err R C K A X c xc T x _ (hm.below hb1) (hA.up hb1) (hX.up hb1) hn hx h)
  have hbx := hb1.trans ((below_new (w.alloc (.cells #[.int .i64 R, .int .i64 C, .int .i64 K, .slice A T.length c] 24)) (.cells #[.slice X x.length xc] 22)).mono hb1.size)
  simp only [World.size_alloc] at HP
  have hne : (valE R C K T x != 0) = true := by simpa using h
  generalize valE R C K T x = E at *
  clear hm hA hX h
  go_enter Tryd.func45, Tryd.ntmps45
  go_wp2_with (go_at_call 74; refine (HP.out).mono ?_; rintro e w1 ⟨rfl, hb2⟩; have hb3 := hbx.trans (hb2.mono hbx.size))
  go_ret
  exact ⟨rfl, hb3.alloc hb3.size _⟩

theorem prodN_cast (p : Pr) : ((p.R : Int) * (p.C : Int)).toNat = p.n := by unfold Pr.n; rw [← Int.natCast_mul]; rfl
theorem val_ok {p : Pr} (hp : p.Ok) {b : List Int} (hb : BackOk p b) : valE p.R p.C p.K (intsN p.T) b = 0 := by rw [valE_ok (chk_of_ok hp), prodN_cast]; exact hb.chk
theorem back_of_chk {p : Pr} {b : List Int} (h : chkB p.n p.K b = 0) : BackOk p b := by
  unfold chkB at h
  split at h
  · split at h
    · next h1 h2 => exact ⟨h1, h2⟩
    · omega
  · omega
theorem ok_of_val {R C K : Int} {T b : List Int} (h : valE R C K T b = 0) : ∃ p : Pr, p.Ok ∧ R = p.R ∧ C = p.C ∧ K = p.K ∧ T = intsN p.T ∧ BackOk p b := by
  by_cases h0 : chkE R C K T = 0
  · obtain ⟨p, hp, rfl, rfl, rfl, rfl⟩ := ok_of_chk h0
    rw [valE_ok h0, prodN_cast] at h
    exact ⟨p, hp, rfl, rfl, rfl, rfl, back_of_chk h⟩
  · rw [valE_bad h0] at h
    exact absurd h h0

theorem refVal_ok (p : Pr) (hp : p.Ok) (A X : Option Addr) (c xc : Nat) (b : List Int) (w : World) (hT : IntsAt w w.heap.size A (intsN p.T)) (hX : IntsAt w w.heap.size X b) (hb : BackOk p b) :
    Calls Tryd.prog 77 #[.agg #[.int .i64 p.R, .int .i64 p.C, .int .i64 p.K, .slice A p.T.length c], .slice X b.length xc] w fun e w' => e = .returned (.int .i64 0) ∧ Below w.heap.size w w' := by
  have h := refValid_any p.R p.C p.K A X c xc (intsN p.T) b w hT hX (by rw [intsN_len]; have := hp.len; omega) (by have := hb.len hp; omega)
  rw [val_ok hp hb, intsN_len] at h
  exact h
theorem refTd (p : Pr) (hp : p.Ok) (A X : Option Addr) (c xc t : Nat) (b : List Int) (w : World) (hX : IntsAt w w.heap.size X b) (hb : BackOk p b) (ht : t ∈ p.T) :
    Calls Tryd.prog 70 #[.agg #[.int .i64 p.R, .int .i64 p.C, .int .i64 p.K, .slice A p.T.length c], .slice X b.length xc, .int .i64 t] w (RetInts w (tdL (srcs p.R p.C (mv t)) b)) :=
  refTurned_any p.R p.C t p.K A p.T.length c X xc b w (hp.t8 t ht) (hp.kind t ht) hp.r4 hp.c4 hX hb.1
theorem td_len (p : Pr) (t : Nat) (b : List Int) : (tdL (srcs p.R p.C (mv t)) b).length = p.n := by rw [tdL_len, srcs_len]; rfl

set_option maxRecDepth 100000 in
set_option maxHeartbeats 2000000 in
theorem refTurn_ok (p : Pr) (hp : p.Ok) (A X : Option Addr) (c xc t : Nat) (b : List Int) (w : World) (hT : IntsAt w w.heap.size A (intsN p.T)) (hX : IntsAt w w.heap.size X b) (hb : BackOk p b) (ht : t ∈ p.T) :
    Calls Tryd.prog 24 #[.agg #[.int .i64 p.R, .int .i64 p.C, .int .i64 p.K, .slice A p.T.length c], .slice X b.length xc, .int .i64 t] w (RetIE w (tdL (srcs p.R p.C (mv t)) b) 0) := by
  have hb1 := below_new w (.cells #[.int .i64 p.R, .int .i64 p.C, .int .i64 p.K, .slice A p.T.length c] 32)
  have HV := Lib.hid (refVal_ok p hp A X c xc b _ (hT.up hb1) (hX.up hb1) hb)
  have HT := Lib.hid (fun W h => refTd p hp A X c xc t b W h hb ht)
  have HH := Lib.hid (fun W (h : IntsAt W W.heap.size A (intsN p.T)) => refHas_yes A c (intsN p.T) t W h (by rw [intsN_len]; have := hp.len; omega) (intsN_mem.2 ht))
  rw [intsN_len] at HH
  generalize tdL (srcs p.R p.C (mv t)) b = l at *
  clear hp hb ht
  go_enter Tryd.func24, Tryd.ntmps24
  go_wp2_with (first
    | (go_at_call 77; refine (HV.out).mono ?_; rintro e w2 ⟨rfl, hb2⟩; obtain ⟨q1, q2, q3⟩ := bcell hb2; simp only [World.size_alloc] at q1 q2 q3; have hb3 := hb1.trans (hb2.mono hb1.size))
    | (go_at_call 73; refine (HH.out _ (hT.up hb3)).mono ?_; rintro e w4 ⟨rfl, rfl⟩)
    | (go_at_call 70; refine (HT.out _ (hX.up hb3)).mono ?_; rintro e w5 ⟨D, d, rfl, hI, hb5, _⟩))
  go_ret2
  exact ⟨D, d, rfl, hI, hb3.trans (hb5.mono hb3.size)⟩

set_option maxRecDepth 100000 in
set_option maxHeartbeats 2000000 in
theorem refTurn_none (p : Pr) (hp : p.Ok) (A X : Option Addr) (c xc : Nat) (t : Int) (b : List Int) (w : World) (hT : IntsAt w w.heap.size A (intsN p.T)) (hX : IntsAt w w.heap.size X b) (hb : BackOk p b) (ht : t ∉ intsN p.T) :
    Calls Tryd.prog 24 #[.agg #[.int .i64 p.R, .int .i64 p.C, .int .i64 p.K, .slice A p.T.length c], .slice X b.length xc, .int .i64 t] w (RetIE w [] 2) := by
  have hb1 := below_new w (.cells #[.int .i64 p.R, .int .i64 p.C, .int .i64 p.K, .slice A p.T.length c] 32)
  have HV := Lib.hid (refVal_ok p hp A X c xc b _ (hT.up hb1) (hX.up hb1) hb)
  have HH := Lib.hid (fun W (h : IntsAt W W.heap.size A (intsN p.T)) => refHas_no A c (intsN p.T) t W h (by rw [intsN_len]; have := hp.len; omega) ht)
  rw [intsN_len] at HH
  clear hp hb ht
  go_enter Tryd.func24, Tryd.ntmps24
  go_wp2_with (first
    | (go_at_call 77; refine (HV.out).mono ?_; rintro e w2 ⟨rfl, hb2⟩; obtain ⟨q1, q2, q3⟩ := bcell hb2; simp only [World.size_alloc] at q1 q2 q3; have hb3 := hb1.trans (hb2.mono hb1.size))
    | (go_at_call 73; refine (HH.out _ (hT.up hb3)).mono ?_; rintro e w4 ⟨rfl, rfl⟩))
  go_ret2
  exact ⟨none, 0, rfl, IntsAt.nil _ _ _, hb3⟩

set_option maxRecDepth 100000 in
set_option maxHeartbeats 2000000 in
theorem turnF_none (p : Pr) (hp : p.Ok) (A TA : Option Addr) (c tc : Nat) (b : List Int) (t : Int) (w : World) (hm : MovW w) (hT : IntsAt w w.heap.size TA (intsN p.T)) (hA : IntsAt w w.heap.size A b) (hb : BackOk p b) (ht : t ∉ intsN p.T) :
    Calls Tryd.prog 23 #[.agg #[.int .i64 p.R, .int .i64 p.C, .int .i64 p.K, .slice TA p.T.length tc], .slice A b.length c, .int .i64 t] w (RetIE w [] 2) := by
  have hb1 := below_new w (.cells #[.int .i64 p.R, .int .i64 p.C, .int .i64 p.K, .slice TA p.T.length tc] 24)
  have HP := Lib.hid (plate_one p hp A TA c tc b w _ hm hT hA hb hb1)
  simp only [World.size_alloc] at HP
  have hbx := hb1.trans ((below_new (w.alloc (.cells #[.int .i64 p.R, .int .i64 p.C, .int .i64 p.K, .slice TA p.T.length tc] 24)) (.cells #[.slice A b.length c] 22)).mono hb1.size)
  have hl8 := hp.len
  have HX := Lib.hid (fun W (hW : Below w.heap.size w W) => index_out TA tc (intsN p.T) t W W.heap.size (hT.up hW) (by rw [intsN_len]; omega) ht)
  rw [intsN_len] at HX
  clear hm hT hA hb hp ht
  go_enter Tryd.func23, Tryd.ntmps23
  go_wp2_with (first
    | (go_at_call 74; refine (HP.out).mono ?_; rintro e w1 ⟨FA, fc, rfl, hF, hb2⟩; have hb3 := hbx.trans (hb2.mono hbx.size); have hb4 := hb3.trans ((below_new w1 (.cells #[.int .i64 p.R, .int .i64 p.C, .int .i64 p.K, .slice TA p.T.length tc, .slice FA p.T.length fc] 115)).mono hb3.size))
    | (go_at_call 75; refine (HX.out _ hb4).mono ?_; rintro e w5 ⟨rfl, rfl⟩))
  go_ret2
  exact ⟨none, 0, rfl, IntsAt.nil _ _ _, hb4⟩

set_option maxRecDepth 100000 in
set_option maxHeartbeats 2000000 in
theorem alikeF_lost (p : Pr) (hp : p.Ok) (A D TA : Option Addr) (c d tc : Nat) (a b : List Int) (w : World) (hm : MovW w) (hT : IntsAt w w.heap.size TA (intsN p.T)) (hA : IntsAt w w.heap.size A a) (hD : IntsAt w w.heap.size D b) (ha : BackOk p a) (hb : BackOk p b) (ht : p.makes a b = []) :
    Calls Tryd.prog 25 #[.agg #[.int .i64 p.R, .int .i64 p.C, .int .i64 p.K, .slice TA p.T.length tc], .slice A a.length c, .slice D b.length d] w (RetNE w 0 12) := by
  have hb1 := below_new w (.cells #[.int .i64 p.R, .int .i64 p.C, .int .i64 p.K, .slice TA p.T.length tc] 24)
  have HP := Lib.hid (plate_two p hp A D TA c d tc a b w _ hm hT hA hD ha hb hb1)
  simp only [World.size_alloc] at HP
  have hbx := hb1.trans ((below_new (w.alloc (.cells #[.int .i64 p.R, .int .i64 p.C, .int .i64 p.K, .slice TA p.T.length tc] 24)) (.cells #[.slice A a.length c, .slice D b.length d] 22)).mono hb1.size)
  have HK := Lib.hid (fun W FA fc (hW : Below w.heap.size w W) hF => makes_any p.R p.C p.K TA FA tc fc p.T p.from A D c d a b W (hT.up hW) hF (hA.up hW) (hD.up hW) (from_len p) (from_in hp ha.1) (by have := ha.len hp; omega) (by have := hb.len hp; omega) (by have := hp.len; omega))
  rw [mkL_all, ht] at HK
  clear hm hT hA hD hb ha hp ht
  go_enter Tryd.func25, Tryd.ntmps25
  go_wp2_with (first
    | (go_at_call 74; refine (HP.out).mono ?_; rintro e w1 ⟨FA, fc, rfl, hF, hb2⟩; have hb3 := hbx.trans (hb2.mono hbx.size); have hb4 := hb3.trans ((below_new w1 (.cells #[.int .i64 p.R, .int .i64 p.C, .int .i64 p.K, .slice TA p.T.length tc, .slice FA p.T.length fc] 115)).mono hb3.size); have hF2 := hF.up (below_new w1 (.cells #[.int .i64 p.R, .int .i64 p.C, .int .i64 p.K, .slice TA p.T.length tc, .slice FA p.T.length fc] 115)))
    | (go_at_call 78; refine (HK.out _ _ _ hb4 hF2).mono ?_; rintro e w5 ⟨E, g, rfl, _, hb5, _⟩))
  go_ret2
  exact ⟨rfl, hb4.trans (hb5.mono hb4.size)⟩

set_option maxRecDepth 100000 in
theorem turnR_err (R C K : Int) (A X : Option Addr) (c xc : Nat) (T x : List Int) (t : Int) (w : World) (hA : IntsAt w w.heap.size A T) (hX : IntsAt w w.heap.size X x) (hn : T.length < 1000) (hx : x.length < 1000) (h : valE R C K T x ≠ 0) :
    Calls Tryd.prog 24 #[.agg #[.int .i64 R, .int .i64 C, .int .i64 K, .slice A T.length c], .slice X x.length xc, .int .i64 t] w (RetIE w [] (valE R C K T x)) := by
  have hb1 := below_new w (.cells #[.int .i64 R, .int .i64 C, .int .i64 K, .slice A T.length c] 32)
  have HP := Lib.hid (refValid_any R C K A X c xc T x _ (hA.up hb1) (hX.up hb1) hn hx)
  have hne : (valE R C K T x != 0) = true := by simpa using h
  have heq : (valE R C K T x == 0) = false := by simpa using h
  generalize valE R C K T x = E at *
  clear hA hX h
  go_enter Tryd.func24, Tryd.ntmps24
  go_wp2_with (go_at_call 77; refine (HP.out).mono ?_; rintro e w1 ⟨rfl, hb2⟩; have hb3 := hb1.trans (hb2.mono hb1.size))
  go_ret2
  exact ⟨none, 0, rfl, IntsAt.nil _ _ _, hb3⟩

set_option maxRecDepth 100000 in
theorem staysR_err (R C K : Int) (A X : Option Addr) (c xc : Nat) (T x : List Int) (w : World) (hA : IntsAt w w.heap.size A T) (hX : IntsAt w w.heap.size X x) (hn : T.length < 1000) (hx : x.length < 1000) (h : valE R C K T x ≠ 0) :
    Calls Tryd.prog 28 #[.agg #[.int .i64 R, .int .i64 C, .int .i64 K, .slice A T.length c], .slice X x.length xc] w (RetIE w [] (valE R C K T x)) := by
  have hb1 := below_new w (.cells #[.int .i64 R, .int .i64 C, .int .i64 K, .slice A T.length c] 32)
  have HP := Lib.hid (refValid_any R C K A X c xc T x _ (hA.up hb1) (hX.up hb1) hn hx)
  have hne : (valE R C K T x != 0) = true := by simpa using h
  have heq : (valE R C K T x == 0) = false := by simpa using h
  generalize valE R C K T x = E at *
  clear hA hX h
  go_enter Tryd.func28, Tryd.ntmps28
  go_wp2_with (go_at_call 77; refine (HP.out).mono ?_; rintro e w1 ⟨rfl, hb2⟩; have hb3 := hb1.trans (hb2.mono hb1.size))
  go_ret2
  exact ⟨none, 0, rfl, IntsAt.nil _ _ _, hb3⟩

set_option maxRecDepth 100000 in
theorem firstR_err (R C K : Int) (A X : Option Addr) (c xc : Nat) (T x : List Int) (w : World) (hA : IntsAt w w.heap.size A T) (hX : IntsAt w w.heap.size X x) (hn : T.length < 1000) (hx : x.length < 1000) (h : valE R C K T x ≠ 0) :
    Calls Tryd.prog 31 #[.agg #[.int .i64 R, .int .i64 C, .int .i64 K, .slice A T.length c], .slice X x.length xc] w (RetIE w [] (valE R C K T x)) := by
  have hb1 := below_new w (.cells #[.int .i64 R, .int .i64 C, .int .i64 K, .slice A T.length c] 32)
  have HP := Lib.hid (refValid_any R C K A X c xc T x _ (hA.up hb1) (hX.up hb1) hn hx)
  have hne : (valE R C K T x != 0) = true := by simpa using h
  have heq : (valE R C K T x == 0) = false := by simpa using h
  generalize valE R C K T x = E at *
  clear hA hX h
  go_enter Tryd.func31, Tryd.ntmps31
  go_wp2_with (go_at_call 77; refine (HP.out).mono ?_; rintro e w1 ⟨rfl, hb2⟩; have hb3 := hb1.trans (hb2.mono hb1.size))
  go_ret2
  exact ⟨none, 0, rfl, IntsAt.nil _ _ _, hb3⟩

set_option maxRecDepth 100000 in
theorem kinR_err (R C K : Int) (A X : Option Addr) (c xc : Nat) (T x : List Int) (w : World) (hA : IntsAt w w.heap.size A T) (hX : IntsAt w w.heap.size X x) (hn : T.length < 1000) (hx : x.length < 1000) (h : valE R C K T x ≠ 0) :
    Calls Tryd.prog 33 #[.agg #[.int .i64 R, .int .i64 C, .int .i64 K, .slice A T.length c], .slice X x.length xc] w (RetLE w [] (valE R C K T x)) := by
  have hb1 := below_new w (.cells #[.int .i64 R, .int .i64 C, .int .i64 K, .slice A T.length c] 32)
  have HP := Lib.hid (refValid_any R C K A X c xc T x _ (hA.up hb1) (hX.up hb1) hn hx)
  have hne : (valE R C K T x != 0) = true := by simpa using h
  have heq : (valE R C K T x == 0) = false := by simpa using h
  generalize valE R C K T x = E at *
  clear hA hX h
  go_enter Tryd.func33, Tryd.ntmps33
  go_wp2_with (go_at_call 77; refine (HP.out).mono ?_; rintro e w1 ⟨rfl, hb2⟩; have hb3 := hb1.trans (hb2.mono hb1.size))
  go_ret2
  exact ⟨none, 0, rfl, ListsAt.nil _ _ _, hb3⟩

set_option maxRecDepth 100000 in
theorem cellsR_err (R C K : Int) (A X : Option Addr) (c xc : Nat) (T x : List Int) (w : World) (hA : IntsAt w w.heap.size A T) (hX : IntsAt w w.heap.size X x) (hn : T.length < 1000) (hx : x.length < 1000) (h : valE R C K T x ≠ 0) :
    Calls Tryd.prog 44 #[.agg #[.int .i64 R, .int .i64 C, .int .i64 K, .slice A T.length c], .slice X x.length xc] w (RetIE w [] (valE R C K T x)) := by
  have hb1 := below_new w (.cells #[.int .i64 R, .int .i64 C, .int .i64 K, .slice A T.length c] 32)
  have HP := Lib.hid (refValid_any R C K A X c xc T x _ (hA.up hb1) (hX.up hb1) hn hx)
  have hne : (valE R C K T x != 0) = true := by simpa using h
  have heq : (valE R C K T x == 0) = false := by simpa using h
  generalize valE R C K T x = E at *
  clear hA hX h
  go_enter Tryd.func44, Tryd.ntmps44
  go_wp2_with (go_at_call 77; refine (HP.out).mono ?_; rintro e w1 ⟨rfl, hb2⟩; have hb3 := hb1.trans (hb2.mono hb1.size))
  go_ret2
  exact ⟨none, 0, rfl, IntsAt.nil _ _ _, hb3⟩

set_option maxRecDepth 100000 in
theorem alikeR_err (R C K : Int) (A X Y : Option Addr) (c xc yc : Nat) (T x y : List Int) (w : World) (hA : IntsAt w w.heap.size A T) (hX : IntsAt w w.heap.size X x) (hY : IntsAt w w.heap.size Y y) (hn : T.length < 1000) (hx : x.length < 1000) (hy : y.length < 1000) (E : Int) (hE : E = if valE R C K T x = 0 then valE R C K T y else valE R C K T x) (h : E ≠ 0) :
    Calls Tryd.prog 26 #[.agg #[.int .i64 R, .int .i64 C, .int .i64 K, .slice A T.length c], .slice X x.length xc, .slice Y y.length yc] w (RetNE w 0 E) := by
  have hb1 := below_new w (.cells #[.int .i64 R, .int .i64 C, .int .i64 K, .slice A T.length c] 32)
  have HP := Lib.hid (refValid_any R C K A X c xc T x _ (hA.up hb1) (hX.up hb1) hn hx)
  have HQ := Lib.hid (fun W (hb : Below w.heap.size w W) => refValid_any R C K A Y c yc T y W (hA.up hb) (hY.up hb) hn hy)
  have hne : (E != 0) = true := by simpa using h
  have heq : (E == 0) = false := by simpa using h
  by_cases h0 : valE R C K T x = 0
  · rw [if_pos h0] at hE
    rw [h0] at HP
    rw [← hE] at HQ
    clear hA hX hY h h0 hE
    go_enter Tryd.func26, Tryd.ntmps26
    go_wp2_with (first
      | (go_at_call 77; ((with_reducible refine (HP.out).mono ?_); rintro e w1 ⟨rfl, hb2⟩; have hb3 := hb1.trans (hb2.mono hb1.size); obtain ⟨q1, q2, q3⟩ := bcell hb2; simp only [World.size_alloc] at q1 q2 q3))
      | (go_at_call 77; refine (HQ.out _ hb3).mono ?_; rintro e w4 ⟨rfl, hb4⟩))
    go_ret2
    exact ⟨rfl, hb3.trans (hb4.mono hb3.size)⟩
  · rw [if_neg h0] at hE
    rw [← hE] at HP
    clear hA hX hY h h0 hE HQ
    go_enter Tryd.func26, Tryd.ntmps26
    go_wp2_with (go_at_call 77; ((with_reducible refine (HP.out).mono ?_); rintro e w1 ⟨rfl, hb2⟩; have hb3 := hb1.trans (hb2.mono hb1.size)))
    go_ret2
    exact ⟨rfl, hb3⟩
end Go.Proofs.YtbcbaaapogejiaaDoor
