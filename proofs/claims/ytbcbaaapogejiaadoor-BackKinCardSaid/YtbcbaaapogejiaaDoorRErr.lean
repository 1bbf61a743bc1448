/-
  The reference at presses and backs that are not as they must be: the error is handed back.
-/
import Derived.Test.YtbcbaaapogejiaaDoorRefE
namespace Go.Proofs.YtbcbaaapogejiaaDoor
open Go.RowKit

set_option maxRecDepth 100000 in
theorem turnR_err (R C K : Int) (A X : Option Addr) (c xc : Nat) (T x : List Int) (t : Int) (w : World) (hA : IntsAt w w.heap.size A T) (hX : IntsAt w w.heap.size X x) (hn : T.length < 1000) (hx : x.length < 1000) (h : valE R C K T x ≠ 0) :
    Calls Tryd.prog 24 #[.agg #[.int .i64 R, .int .i64 C, .int .i64 K, .slice A T.length c], .slice X x.length xc, .int .i64 t] w (RetIE w [] (valE R C K T x)) := by
  have hb1 := below_new w (.cells #[.int .i64 R, .int .i64 C, .int .i64 K, .slice A T.length c] 32)
  have HP := Lib.hid (refValid_any R C K A X c xc T x _ (hA.up hb1) (hX.up hb1) hn hx)
  have hne : (valE R C K T x != 0) = true := by simpa using h
  have heq : (valE R C K T x == 0) = false := by simpa using h
  generalize valE R C K T x = E at *
  clear hA hX h
  go_enter Tryd.func24, Tryd.ntmps24
  go_wp2_with (go_at_call 77; refine (HP.out).mono ?_; rintro e w1 ⟨rfl, hb2⟩; have hb3 := hb1.trans (hb2.mono hb1.size))
  go_ret2
  exact ⟨none, 0, rfl, IntsAt.nil _ _ _, hb3⟩

set_option maxRecDepth 100000 in
theorem staysR_err (R C K : Int) (A X : Option Addr) (c xc : Nat) (T x : List Int) (w : World) (hA : IntsAt w w.heap.size A T) (hX : IntsAt w w.heap.size X x) (hn : T.length < 1000) (hx : x.length < 1000) (h : valE R C K T x ≠ 0) :
    Calls Tryd.prog 28 #[.agg #[.int .i64 R, .int .i64 C, .int .i64 K, .slice A T.length c], .slice X x.length xc] w (RetIE w [] (valE R C K T x)) := by
  have hb1 := below_new w (.cells #[.int .i64 R, .int .i64 C, .int .i64 K, .slice A T.length c] 32)
  have HP := Lib.hid (refValid_any R C K A X c xc T x _ (hA.up hb1) (hX.up hb1) hn hx)
  have hne : (valE R C K T x != 0) = true := by simpa using h
  have heq : (valE R C K T x == 0) = false := by simpa using h
  generalize valE R C K T x = E at *
  clear hA hX h
  go_enter Tryd.func28, Tryd.ntmps28
  go_wp2_with (go_at_call 77; refine (HP.out).mono ?_; rintro e w1 ⟨rfl, hb2⟩; have hb3 := hb1.trans (hb2.mono hb1.size))
  go_ret2
  exact ⟨none, 0, rfl, IntsAt.nil _ _ _, hb3⟩

set_option maxRecDepth 100000 in
theorem firstR_err (R C K : Int) (A X : Option Addr) (c xc : Nat) (T x : List Int) (w : World) (hA : IntsAt w w.heap.size A T) (hX : IntsAt w w.heap.size X x) (hn : T.length < 1000) (hx : x.length < 1000) (h : valE R C K T x ≠ 0) :
    Calls Tryd.prog 31 #[.agg #[.int .i64 R, .int .i64 C, .int .i64 K, .slice A T.length c], .slice X x.length xc] w (RetIE w [] (valE R C K T x)) := by
  have hb1 := below_new w (.cells #[.int .i64 R, .int .i64 C, .int .i64 K, .slice A T.length c] 32)
  have HP := Lib.hid (refValid_any R C K A X c xc T x _ (hA.up hb1) (hX.up hb1) hn hx)
  have hne : (valE R C K T x != 0) = true := by simpa using h
  have heq : (valE R C K T x == 0) = false := by simpa using h
  generalize valE R C K T x = E at *
  clear hA hX h
  go_enter Tryd.func31, Tryd.ntmps31
  go_wp2_with (go_at_call 77; refine (HP.out).mono ?_; rintro e w1 ⟨rfl, hb2⟩; have hb3 := hb1.trans (hb2.mono hb1.size))
  go_ret2
  exact ⟨none, 0, rfl, IntsAt.nil _ _ _, hb3⟩

set_option maxRecDepth 100000 in
theorem kinR_err (R C K : Int) (A X : Option Addr) (c xc : Nat) (T x : List Int) (w : World) (hA : IntsAt w w.heap.size A T) (hX : IntsAt w w.heap.size X x) (hn : T.length < 1000) (hx : x.length < 1000) (h : valE R C K T x ≠ 0) :
    Calls Tryd.prog 33 #[.agg #[.int .i64 R, .int .i64 C, .int .i64 K, .slice A T.length c], .slice X x.length xc] w (RetLE w [] (valE R C K T x)) := by
  have hb1 := below_new w (.cells #[.int .i64 R, .int .i64 C, .int .i64 K, .slice A T.length c] 32)
  have HP := Lib.hid (refValid_any R C K A X c xc T x _ (hA.up hb1) (hX.up hb1) hn hx)
  have hne : (valE R C K T x != 0) = true := by simpa using h
  have heq : (valE R C K T x == 0) = false := by simpa using h
  generalize valE R C K T x = E at *
  clear hA hX h
  go_enter Tryd.func33, Tryd.ntmps33
  go_wp2_with (go_at_call 77; refine (HP.out).mono ?_; rintro e w1 ⟨rfl, hb2⟩; have hb3 := hb1.trans (hb2.mono hb1.size))
  go_ret2
  exact ⟨none, 0, rfl, ListsAt.nil _ _ _, hb3⟩

set_option maxRecDepth 100000 in
theorem cellsR_err (R C K : Int) (A X : Option Addr) (c xc : Nat) (T x : List Int) (w : World) (hA : IntsAt w w.heap.size A T) (hX : IntsAt w w.heap.size X x) (hn : T.length < 1000) (hx : x.length < 1000) (h : valE R C K T x ≠ 0) :
    Calls Tryd.prog 44 #[.agg #[.int .i64 R, .int .i64 C, .int .i64 K, .slice A T.length c], .slice X x.length xc] w (RetIE w [] (valE R C K T x)) := by
  have hb1 := below_new w (.cells #[.int .i64 R, .int .i64 C, .int .i64 K, .slice A T.length c] 32)
  have HP := Lib.hid (refValid_any R C K A X c xc T x _ (hA.up hb1) (hX.up hb1) hn hx)
  have hne : (valE R C K T x != 0) = true := by simpa using h
  have heq : (valE R C K T x == 0) = false := by simpa using h
  generalize valE R C K T x = E at *
  clear hA hX h
  go_enter Tryd.func44, Tryd.ntmps44
  go_wp2_with (go_at_call 77; refine (HP.out).mono ?_; rintro e w1 ⟨rfl, hb2⟩; have hb3 := hb1.trans (hb2.mono hb1.size))
  go_ret2
  exact ⟨none, 0, rfl, IntsAt.nil _ _ _, hb3⟩

set_option maxRecDepth 100000 in
theorem alikeR_err (R C K : Int) (A X Y : Option Addr) (c xc yc : Nat) (T x y : List Int) (w : World) (hA : IntsAt w w.heap.size A T) (hX : IntsAt w w.heap.size X x) (hY : IntsAt w w.heap.size Y y) (hn : T.length < 1000) (hx : x.length < 1000) (hy : y.length < 1000) (E : Int) (hE : E = if valE R C K T x = 0 then valE R C K T y else valE R C K T x) (h : E ≠ 0) :
    Calls Tryd.prog 26 #[.agg #[.int .i64 R, .int .i64 C, .int .i64 K, .slice A T.length c], .slice X x.length xc, .slice Y y.length yc] w (RetNE w 0 E) := by
  have hb1 := below_new w (.cells #[.int .i64 R, .int .i64 C, .int .i64 K, .slice A T.length c] 32)
  have HP := Lib.hid (refValid_any R C K A X c xc T x _ (hA.up hb1) (hX.up hb1) hn hx)
  have HQ := Lib.hid (fun W (hb : Below w.heap.size w W) => refValid_any R C K A Y c yc T y W (hA.up hb) (hY.up hb) hn hy)
  have hne : (E != 0) = true := by simpa using h
  have heq : (E == 0) = false := by simpa using h
  by_cases h0 : valE R C K T x = 0
  · rw [if_pos h0] at hE
    rw [h0] at HP
    rw [← hE] at HQ
    clear hA hX hY h h0 hE
    go_enter Tryd.func26, Tryd.ntmps26
    go_wp2_with (first
      | (go_at_call 77; ((with_reducible refine (HP.out).mono ?_); rintro e w1 ⟨rfl, hb2⟩; have hb3 := hb1.trans (hb2.mono hb1.size); obtain ⟨q1, q2, q3⟩ := bcell hb2; simp only [World.size_alloc] at q1 q2 q3))
      | (go_at_call 77; refine (HQ.out _ hb3).mono ?_; rintro e w4 ⟨rfl, hb4⟩))
    go_ret2
    exact ⟨rfl, hb3.trans (hb4.mono hb3.size)⟩
  · rw [if_neg h0] at hE
    rw [← hE] at HP
    clear hA hX hY h h0 hE HQ
    go_enter Tryd.func26, Tryd.ntmps26
    go_wp2_with (go_at_call 77; ((with_reducible refine (HP.out).mono ?_); rintro e w1 ⟨rfl, hb2⟩; have hb3 := hb1.trans (hb2.mono hb1.size)))
    go_ret2
    exact ⟨rfl, hb3⟩
end Go.Proofs.YtbcbaaapogejiaaDoor
