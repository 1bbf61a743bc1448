/-
  Presses and backs that are not as they must be: each exported function hands the error back.
-/
import Derived.Test.YtbcbaaapogejiaaDoorRefD
import Derived.Test.YtbcbaaapogejiaaDoorExpC
namespace Go.Proofs.YtbcbaaapogejiaaDoor
open Go.RowKit

/-- A list and an error are handed back. -/
def RetIE (w : World) (l : List Int) (E : Int) (e : Ending) (w' : World) : Prop := ∃ A c, e = .returned (.tuple #[.slice A l.length c, .int .i64 E]) ∧ IntsAt w' w'.heap.size A l ∧ Below w.heap.size w w'
/-- Lists and an error are handed back. -/
def RetLE (w : World) (l : List (List Int)) (E : Int) (e : Ending) (w' : World) : Prop := ∃ A c, e = .returned (.tuple #[.slice A l.length c, .int .i64 E]) ∧ ListsAt w' w'.heap.size A l ∧ Below w.heap.size w w'
/-- A number and an error are handed back. -/
def RetNE (w : World) (n : Int) (E : Int) (e : Ending) (w' : World) : Prop := e = .returned (.tuple #[.int .i64 n, .int .i64 E]) ∧ Below w.heap.size w w'

def PlateErr (w : World) (E : Int) (e : Ending) (w' : World) : Prop := e = .returned (.tuple #[.agg #[.int .i64 0, .int .i64 0, .int .i64 0, .slice none 0 0, .slice none 0 0], .int .i64 E]) ∧ Below w.heap.size w w'

theorem plate0_err (R C K : Int) (A : Option Addr) (c : Nat) (T : List Int) (W : World) (hm : MovW W) (hA : IntsAt W W.heap.size A T) (hn : T.length < 1000) (h : chkE R C K T ≠ 0) :
    Calls Tryd.prog 74 #[.agg #[.int .i64 R, .int .i64 C, .int .i64 K, .slice A T.length c], .slice none 0 0] W (PlateErr W (chkE R C K T)) :=
  plate_bad R C K A none c 0 0 T W hm hA hn h
theorem plate1_err (R C K : Int) (A X : Option Addr) (c xc : Nat) (T x : List Int) (W : World) (hm : MovW W) (hA : IntsAt W W.heap.size A T) (hX : IntsAt W W.heap.size X x) (hn : T.length < 1000) (hx : x.length < 1000) (h : valE R C K T x ≠ 0) :
    Calls Tryd.prog 74 #[.agg #[.int .i64 R, .int .i64 C, .int .i64 K, .slice A T.length c], .slice (some ⟨W.heap.size, 0, none⟩) 1 1] (W.alloc (.cells #[.slice X x.length xc] 22)) (PlateErr (W.alloc (.cells #[.slice X x.length xc] 22)) (valE R C K T x)) := by
  have hb := below_new W (.cells #[.slice X x.length xc] 22)
  by_cases h0 : chkE R C K T = 0
  · obtain ⟨p, hp, rfl, rfl, rfl, rfl⟩ := ok_of_chk h0
    rw [valE_ok h0] at *
    rw [show ((p.R : Int) * (p.C : Int)).toNat = p.n by unfold Pr.n; rw [← Int.natCast_mul]; rfl] at *
    have e : bksE p.n p.K chkB [x] = chkB p.n p.K x := by rw [bksE, if_neg h]
    have h1 := plate_err p hp A (some ⟨W.heap.size, 0, none⟩) c 1 [x] _ (hm.below hb) (hA.up hb) (lists_one hX) (fun b hb => by rw [List.mem_singleton.1 hb]; exact hx) (by simp) (by rw [e]; exact h)
    rw [e] at h1
    rw [intsN_len]
    exact h1
  · rw [valE_bad h0]
    exact plate_bad R C K A _ c 1 1 T _ (hm.below hb) (hA.up hb) hn h0
theorem plate2_err (R C K : Int) (A X Y : Option Addr) (c xc yc : Nat) (T x y : List Int) (W : World) (hm : MovW W) (hA : IntsAt W W.heap.size A T) (hX : IntsAt W W.heap.size X x) (hY : IntsAt W W.heap.size Y y) (hn : T.length < 1000) (hx : x.length < 1000) (hy : y.length < 1000) (E : Int) (hE : E = if valE R C K T x = 0 then valE R C K T y else valE R C K T x) (h : E ≠ 0) :
    Calls Tryd.prog 74 #[.agg #[.int .i64 R, .int .i64 C, .int .i64 K, .slice A T.length c], .slice (some ⟨W.heap.size, 0, none⟩) 2 2] (W.alloc (.cells #[.slice X x.length xc, .slice Y y.length yc] 22)) (PlateErr (W.alloc (.cells #[.slice X x.length xc, .slice Y y.length yc] 22)) E) := by
  have hb := below_new W (.cells #[.slice X x.length xc, .slice Y y.length yc] 22)
  by_cases h0 : chkE R C K T = 0
  · obtain ⟨p, hp, rfl, rfl, rfl, rfl⟩ := ok_of_chk h0
    rw [valE_ok h0, valE_ok h0] at hE
    rw [show ((p.R : Int) * (p.C : Int)).toNat = p.n by unfold Pr.n; rw [← Int.natCast_mul]; rfl] at hE
    have e : bksE p.n p.K chkB [x, y] = E := by
      rw [hE, bksE]
      by_cases hx0 : chkB p.n p.K x = 0
      · rw [if_pos hx0, if_pos hx0, bksE]
        by_cases hy0 : chkB p.n p.K y = 0
        · rw [if_pos hy0, hy0]; rfl
        · rw [if_neg hy0]
      · rw [if_neg hx0, if_neg hx0]
    have h1 := plate_err p hp A (some ⟨W.heap.size, 0, none⟩) c 2 [x, y] _ (hm.below hb) (hA.up hb) (lists_two hX hY) (fun b hb => by
      rcases List.mem_cons.1 hb with e | hb
      · rw [e]; exact hx
      · rw [List.mem_singleton.1 hb]; exact hy) (by simp) (by rw [e]; exact h)
    rw [e] at h1
    rw [intsN_len]
    exact h1
  · rw [valE_bad h0, valE_bad h0, if_neg h0] at hE
    rw [hE]
    exact plate_bad R C K A _ c 2 2 T _ (hm.below hb) (hA.up hb) hn h0

set_option maxRecDepth 100000 in
theorem turn_err (R C K : Int) (A X : Option Addr) (c xc : Nat) (T x : List Int) (t : Int) (w : World) (hm : MovW w) (hA : IntsAt w w.heap.size A T) (hX : IntsAt w w.heap.size X x) (hn : T.length < 1000) (hx : x.length < 1000) (h : valE R C K T x ≠ 0) :
    Calls Tryd.prog 23 #[.agg #[.int .i64 R, .int .i64 C, .int .i64 K, .slice A T.length c], .slice X x.length xc, .int .i64 t] w (RetIE w [] (valE R C K T x)) := by
  have hb1 := below_new w (.cells #[.int .i64 R, .int .i64 C, .int .i64 K, .slice A T.length c] 24)
  have HP := Lib.hid (plate1_err R C K A X c xc T x _ (hm.below hb1) (hA.up hb1) (hX.up hb1) hn hx h)
  have hbx := hb1.trans ((below_new (w.alloc (.cells #[.int .i64 R, .int .i64 C, .int .i64 K, .slice A T.length c] 24)) (.cells #[.slice X x.length xc] 22)).mono hb1.size)
  simp only [World.size_alloc] at HP
  have hne : (valE R C K T x != 0) = true := by simpa using h
  generalize valE R C K T x = E at *
  clear hm hA hX h
  go_enter Tryd.func23, Tryd.ntmps23
  go_wp2_with (go_at_call 74; refine (HP.out).mono ?_; rintro e w1 ⟨rfl, hb2⟩; have hb3 := hbx.trans (hb2.mono hbx.size))
  go_ret2
  exact ⟨none, 0, rfl, IntsAt.nil _ _ _, hb3.alloc hb3.size _⟩

set_option maxRecDepth 100000 in
theorem alike_err (R C K : Int) (A X Y : Option Addr) (c xc yc : Nat) (T x y : List Int) (w : World) (hm : MovW w) (hA : IntsAt w w.heap.size A T) (hX : IntsAt w w.heap.size X x) (hY : IntsAt w w.heap.size Y y) (hn : T.length < 1000) (hx : x.length < 1000) (hy : y.length < 1000) (E : Int) (hE : E = if valE R C K T x = 0 then valE R C K T y else valE R C K T x) (h : E ≠ 0) :
    Calls Tryd.prog 25 #[.agg #[.int .i64 R, .int .i64 C, .int .i64 K, .slice A T.length c], .slice X x.length xc, .slice Y y.length yc] w (RetNE w 0 E) := by
  have hb1 := below_new w (.cells #[.int .i64 R, .int .i64 C, .int .i64 K, .slice A T.length c] 24)
  have HP := Lib.hid (plate2_err R C K A X Y c xc yc T x y _ (hm.below hb1) (hA.up hb1) (hX.up hb1) (hY.up hb1) hn hx hy E hE h)
  have hbx := hb1.trans ((below_new (w.alloc (.cells #[.int .i64 R, .int .i64 C, .int .i64 K, .slice A T.length c] 24)) (.cells #[.slice X x.length xc, .slice Y y.length yc] 22)).mono hb1.size)
  simp only [World.size_alloc] at HP
  have hne : (E != 0) = true := by simpa using h
  clear hm hA hX hY h hE
  go_enter Tryd.func25, Tryd.ntmps25
  go_wp2_with (go_at_call 74; refine (HP.out).mono ?_; rintro e w1 ⟨rfl, hb2⟩; have hb3 := hbx.trans (hb2.mono hbx.size))
  go_ret2
  exact ⟨rfl, hb3.alloc hb3.size _⟩

set_option maxRecDepth 100000 in
theorem stays_err (R C K : Int) (A X : Option Addr) (c xc : Nat) (T x : List Int) (w : World) (hm : MovW w) (hA : IntsAt w w.heap.size A T) (hX : IntsAt w w.heap.size X x) (hn : T.length < 1000) (hx : x.length < 1000) (h : valE R C K T x ≠ 0) :
    Calls Tryd.prog 27 #[.agg #[.int .i64 R, .int .i64 C, .int .i64 K, .slice A T.length c], .slice X x.length xc] w (RetIE w [] (valE R C K T x)) := by
  have hb1 := below_new w (.cells #[.int .i64 R, .int .i64 C, .int .i64 K, .slice A T.length c] 24)
  have HP := Lib.hid (plate1_err R C K A X c xc T x _ (hm.below hb1) (hA.up hb1) (hX.up hb1) hn hx h)
  have hbx := hb1.trans ((below_new (w.alloc (.cells #[.int .i64 R, .int .i64 C, .int .i64 K, .slice A T.length c] 24)) (.cells #[.slice X x.length xc] 22)).mono hb1.size)
  simp only [World.size_alloc] at HP
  have hne : (valE R C K T x != 0) = true := by simpa using h
  generalize valE R C K T x = E at *
  clear hm hA hX h
  go_enter Tryd.func27, Tryd.ntmps27
  go_wp2_with (go_at_call 74; refine (HP.out).mono ?_; rintro e w1 ⟨rfl, hb2⟩; have hb3 := hbx.trans (hb2.mono hbx.size))
  go_ret2
  exact ⟨none, 0, rfl, IntsAt.nil _ _ _, hb3.alloc hb3.size _⟩

set_option maxRecDepth 100000 in
theorem first_err (R C K : Int) (A X : Option Addr) (c xc : Nat) (T x : List Int) (w : World) (hm : MovW w) (hA : IntsAt w w.heap.size A T) (hX : IntsAt w w.heap.size X x) (hn : T.length < 1000) (hx : x.length < 1000) (h : valE R C K T x ≠ 0) :
    Calls Tryd.prog 30 #[.agg #[.int .i64 R, .int .i64 C, .int .i64 K, .slice A T.length c], .slice X x.length xc] w (RetIE w [] (valE R C K T x)) := by
  have hb1 := below_new w (.cells #[.int .i64 R, .int .i64 C, .int .i64 K, .slice A T.length c] 24)
  have HP := Lib.hid (plate1_err R C K A X c xc T x _ (hm.below hb1) (hA.up hb1) (hX.up hb1) hn hx h)
  have hbx := hb1.trans ((below_new (w.alloc (.cells #[.int .i64 R, .int .i64 C, .int .i64 K, .slice A T.length c] 24)) (.cells #[.slice X x.length xc] 22)).mono hb1.size)
  simp only [World.size_alloc] at HP
  have hne : (valE R C K T x != 0) = true := by simpa using h
  generalize valE R C K T x = E at *
  clear hm hA hX h
  go_enter Tryd.func30, Tryd.ntmps30
  go_wp2_with (go_at_call 74; refine (HP.out).mono ?_; rintro e w1 ⟨rfl, hb2⟩; have hb3 := hbx.trans (hb2.mono hbx.size))
  go_ret2
  exact ⟨none, 0, rfl, IntsAt.nil _ _ _, hb3.alloc hb3.size _⟩

set_option maxRecDepth 100000 in
theorem kin_err (R C K : Int) (A X : Option Addr) (c xc : Nat) (T x : List Int) (w : World) (hm : MovW w) (hA : IntsAt w w.heap.size A T) (hX : IntsAt w w.heap.size X x) (hn : T.length < 1000) (hx : x.length < 1000) (h : valE R C K T x ≠ 0) :
    Calls Tryd.prog 32 #[.agg #[.int .i64 R, .int .i64 C, .int .i64 K, .slice A T.length c], .slice X x.length xc] w (RetLE w [] (valE R C K T x)) := by
  have hb1 := below_new w (.cells #[.int .i64 R, .int .i64 C, .int .i64 K, .slice A T.length c] 24)
  have HP := Lib.hid (plate1_err R C K A X c xc T x _ (hm.below hb1) (hA.up hb1) (hX.up hb1) hn hx h)
  have hbx := hb1.trans ((below_new (w.alloc (.cells #[.int .i64 R, .int .i64 C, .int .i64 K, .slice A T.length c] 24)) (.cells #[.slice X x.length xc] 22)).mono hb1.size)
  simp only [World.size_alloc] at HP
  have hne : (valE R C K T x != 0) = true := by simpa using h
  generalize valE R C K T x = E at *
  clear hm hA hX h
  go_enter Tryd.func32, Tryd.ntmps32
  go_wp2_with (go_at_call 74; refine (HP.out).mono ?_; rintro e w1 ⟨rfl, hb2⟩; have hb3 := hbx.trans (hb2.mono hbx.size))
  go_ret2
  exact ⟨none, 0, rfl, ListsAt.nil _ _ _, hb3.alloc hb3.size _⟩

set_option maxRecDepth 100000 in
theorem staying_err (R C K : Int) (A : Option Addr) (c : Nat) (T : List Int) (t : Int) (w : World) (hm : MovW w) (hA : IntsAt w w.heap.size A T) (hn : T.length < 1000) (h : chkE R C K T ≠ 0) :
    Calls Tryd.prog 35 #[.agg #[.int .i64 R, .int .i64 C, .int .i64 K, .slice A T.length c], .int .i64 t] w (RetNE w 0 (chkE R C K T)) := by
  have hb1 := below_new w (.cells #[.int .i64 R, .int .i64 C, .int .i64 K, .slice A T.length c] 24)
  have HP := Lib.hid (plate0_err R C K A c T _ (hm.below hb1) (hA.up hb1) hn h)
  have hbx := hb1
  have hne : (chkE R C K T != 0) = true := by simpa using h
  generalize chkE R C K T = E at *
  clear hm hA h
  go_enter Tryd.func35, Tryd.ntmps35
  go_wp2_with (go_at_call 74; refine (HP.out).mono ?_; rintro e w1 ⟨rfl, hb2⟩; have hb3 := hbx.trans (hb2.mono hbx.size))
  go_ret2
  exact ⟨rfl, hb3.alloc hb3.size _⟩

set_option maxRecDepth 100000 in
theorem count_err (R C K : Int) (A : Option Addr) (c : Nat) (T : List Int) (w : World) (hm : MovW w) (hA : IntsAt w w.heap.size A T) (hn : T.length < 1000) (h : chkE R C K T ≠ 0) :
    Calls Tryd.prog 37 #[.agg #[.int .i64 R, .int .i64 C, .int .i64 K, .slice A T.length c]] w (RetNE w 0 (chkE R C K T)) := by
  have hb1 := below_new w (.cells #[.int .i64 R, .int .i64 C, .int .i64 K, .slice A T.length c] 24)
  have HP := Lib.hid (plate0_err R C K A c T _ (hm.below hb1) (hA.up hb1) hn h)
  have hbx := hb1
  have hne : (chkE R C K T != 0) = true := by simpa using h
  generalize chkE R C K T = E at *
  clear hm hA h
  go_enter Tryd.func37, Tryd.ntmps37
  go_wp2_with (go_at_call 74; refine (HP.out).mono ?_; rintro e w1 ⟨rfl, hb2⟩; have hb3 := hbx.trans (hb2.mono hbx.size))
  go_ret2
  exact ⟨rfl, hb3.alloc hb3.size _⟩

set_option maxRecDepth 100000 in
theorem with_err (R C K : Int) (A : Option Addr) (c : Nat) (T : List Int) (X : Option Addr) (xn xc : Nat) (w : World) (hm : MovW w) (hA : IntsAt w w.heap.size A T) (hn : T.length < 1000) (h : chkE R C K T ≠ 0) :
    Calls Tryd.prog 39 #[.agg #[.int .i64 R, .int .i64 C, .int .i64 K, .slice A T.length c], .slice X xn xc] w (RetNE w 0 (chkE R C K T)) := by
  have hb1 := below_new w (.cells #[.int .i64 R, .int .i64 C, .int .i64 K, .slice A T.length c] 24)
  have hbx := hb1.trans ((below_new (w.alloc (.cells #[.int .i64 R, .int .i64 C, .int .i64 K, .slice A T.length c] 24)) (.cells #[.slice X xn xc] 22)).mono hb1.size)
  have HP := Lib.hid (plate0_err R C K A c T _ (hm.below hbx) (hA.up hbx) hn h)
  have hne : (chkE R C K T != 0) = true := by simpa using h
  generalize chkE R C K T = E at *
  clear hm hA h
  go_enter Tryd.func39, Tryd.ntmps39
  go_wp2_with (go_at_call 74; refine (HP.out).mono ?_; rintro e w1 ⟨rfl, hb2⟩; have hb3 := hbx.trans (hb2.mono hbx.size))
  go_ret2
  exact ⟨rfl, hb3.alloc hb3.size _⟩

set_option maxRecDepth 100000 in
theorem all_err (R C K : Int) (A : Option Addr) (c : Nat) (T : List Int) (w : World) (hm : MovW w) (hA : IntsAt w w.heap.size A T) (hn : T.length < 1000) (h : chkE R C K T ≠ 0) :
    Calls Tryd.prog 41 #[.agg #[.int .i64 R, .int .i64 C, .int .i64 K, .slice A T.length c]] w (RetLE w [] (chkE R C K T)) := by
  have hb1 := below_new w (.cells #[.int .i64 R, .int .i64 C, .int .i64 K, .slice A T.length c] 24)
  have HP := Lib.hid (plate0_err R C K A c T _ (hm.below hb1) (hA.up hb1) hn h)
  have hbx := hb1
  have hne : (chkE R C K T != 0) = true := by simpa using h
  generalize chkE R C K T = E at *
  clear hm hA h
  go_enter Tryd.func41, Tryd.ntmps41
  go_wp2_with (go_at_call 74; refine (HP.out).mono ?_; rintro e w1 ⟨rfl, hb2⟩; have hb3 := hbx.trans (hb2.mono hbx.size))
  go_ret2
  exact ⟨none, 0, rfl, ListsAt.nil _ _ _, hb3.alloc hb3.size _⟩

set_option maxRecDepth 100000 in
theorem cells_err (R C K : Int) (A X : Option Addr) (c xc : Nat) (T x : List Int) (w : World) (hm : MovW w) (hA : IntsAt w w.heap.size A T) (hX : IntsAt w w.heap.size X x) (hn : T.length < 1000) (hx : x.length < 1000) (h : valE R C K T x ≠ 0) :
    Calls Tryd.prog 43 #[.agg #[.int .i64 R, .int .i64 C, .int .i64 K, .slice A T.length c], .slice X x.length xc] w (RetIE w [] (valE R C K T x)) := by
  have hb1 := below_new w (.cells #[.int .i64 R, .int .i64 C, .int .i64 K, .slice A T.length c] 24)
  have HP := Lib.hid (plate1_err R C K A X c xc T x _ (hm.below hb1) (hA.up hb1) (hX.up hb1) hn hx h)
  have hbx := hb1.trans ((below_new (w.alloc (.cells #[.int .i64 R, .int .i64 C, .int .i64 K, .slice A T.length c] 24)) (.cells #[.slice X x.length xc] 22)).mono hb1.size)
  simp only [World.size_alloc] at HP
  have hne : (valE R C K T x != 0) = true := by simpa using h
  generalize valE R C K T x = E at *
  clear hm hA hX h
  go_enter Tryd.func43, Tryd.ntmps43
  go_wp2_with (go_at_call 74; refine (HP.out).mono ?_; rintro e w1 ⟨rfl, hb2⟩; have hb3 := hbx.trans (hb2.mono hbx.size))
  go_ret2
  exact ⟨none, 0, rfl, IntsAt.nil _ _ _, hb3.alloc hb3.size _⟩

set_option maxRecDepth 100000 in
theorem shows_err (R C K : Int) (A X : Option Addr) (c xc : Nat) (T x : List Int) (Y : Option Addr) (yn yc : Nat) (w : World) (hm : MovW w) (hA : IntsAt w w.heap.size A T) (hX : IntsAt w w.heap.size X x) (hn : T.length < 1000) (hx : x.length < 1000) (h : valE R C K T x ≠ 0) :
    Calls Tryd.prog 45 #[.agg #[.int .i64 R, .int .i64 C, .int .i64 K, .slice A T.length c], .slice X x.length xc, .slice Y yn yc] w (fun e w' => e = .returned (.int .i64 (valE R C K T x)) ∧ Below w.heap.size w w') := by
  have hb1 := below_new w (.cells #[.int .i64 R, .int .i64 C, .int .i64 K, .slice A T.length c] 24)
  have HP := Lib.hid (plate1_err R C K A X c xc T x _ (hm.below hb1) (hA.up hb1) (hX.up hb1) hn hx h)
  have hbx := hb1.trans ((below_new (w.alloc (.cells #[.int .i64 R, .int .i64 C, .int .i64 K, .slice A T.length c] 24)) (.cells #[.slice X x.length xc] 22)).mono hb1.size)
  simp only [World.size_alloc] at HP
  have hne : (valE R C K T x != 0) = true := by simpa using h
  generalize valE R C K T x = E at *
  clear hm hA hX h
  go_enter Tryd.func45, Tryd.ntmps45
  go_wp2_with (go_at_call 74; refine (HP.out).mono ?_; rintro e w1 ⟨rfl, hb2⟩; have hb3 := hbx.trans (hb2.mono hbx.size))
  go_ret
  exact ⟨rfl, hb3.alloc hb3.size _⟩
end Go.Proofs.YtbcbaaapogejiaaDoor
