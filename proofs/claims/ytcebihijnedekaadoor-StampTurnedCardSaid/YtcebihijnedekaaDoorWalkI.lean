/-
  The walks of lists of rooms and sets.
-/
import Derived.Test.YtcebihijnedekaaDoorWalkF
namespace Go.Proofs.YtcebihijnedekaaDoor
open Go.RowKit

/-- The set of a list of rooms, and the error of the list. -/
def setS (rooms : Nat) : List Int → Nat → Int → Nat × Int
  | [], s, _ => (s, 0)
  | r :: l, s, last => if r < 0 ∨ (rooms : Int) ≤ r then (0, 2) else if r ≤ last then (0, 7) else setS rooms l (s ||| 2 ^ (rooms - 1 - r.toNat)) r

theorem i64_or_nat (a b : Nat) (ha : a < 9223372036854775808) (hb : b < 9223372036854775808) : bits .or .i64 (a : Int) (b : Int) = ((a ||| b : Nat) : Int) := by
  have hx : a ||| b < 2 ^ 63 := Nat.or_lt_two_pow (by omega) (by omega)
  show IntKind.i64.wrap ((BitVec.ofInt 64 (a : Int) ||| BitVec.ofInt 64 (b : Int)).toNat : Int) = _
  rw [BitVec.toNat_or, ofInt_i64 a ha, ofInt_i64 b hb, IntKind.wrap_i64]
  omega

theorem or_bit {rooms s : Nat} {r : Int} (hr : rooms ≤ 6) (hs : s < 64) (h0 : 0 ≤ r) (h1 : r < rooms) :
    bits .or .i64 (s : Int) (bitI rooms r) = ((s ||| 2 ^ (rooms - 1 - r.toNat) : Nat) : Int) ∧ s ||| 2 ^ (rooms - 1 - r.toNat) < 64 := by
  have hp : 2 ^ (rooms - 1 - r.toNat) < 64 := Nat.lt_of_le_of_lt (Nat.pow_le_pow_right (by decide) (show rooms - 1 - r.toNat ≤ 5 by omega)) (by decide)
  exact ⟨i64_or_nat _ _ (by omega) (by omega), Nat.or_lt_two_pow (n := 6) hs hp⟩

theorem drop_cons {α : Type} {l : List α} {k : Nat} {x : α} (h : l[k]? = some x) : l.drop k = x :: l.drop (k + 1) := by
  obtain ⟨hk, rfl⟩ := List.getElem?_eq_some_iff.1 h
  exact List.drop_eq_getElem_cons hk

set_option maxHeartbeats 1000000 in
theorem setOf_any (rooms : Nat) (A : Option Addr) (c : Nat) (l : List Int) (w : World) (hr6 : rooms ≤ 6) (hl : l.length ≤ 1000) (hw : IntsAt w w.heap.size A l) :
    Calls Tryd.prog 72 #[.int .i64 rooms, .slice A l.length c] w fun e w' => e = .returned (.tuple #[.int .i64 ((setS rooms l 0 (-1)).1 : Nat), .int .i64 (setS rooms l 0 (-1)).2]) ∧ w = w' := by
  go_enter Tryd.func72, Tryd.ntmps72
  go_wp2
  go_loop [6, 7, 12] (fun st last i => ∃ (k s : Nat) (z : Int), k ≤ l.length ∧ i = .int .i64 k ∧ st = .int .i64 s ∧ last = .int .i64 z ∧ s < 64 ∧ Hid (setS rooms (l.drop k) s z = setS rooms l 0 (-1))) (fun _ _ i => l.length - (intOf i).toNat)
  case atStart => exact ⟨0, 0, -1, Nat.zero_le _, rfl, rfl, rfl, by decide, Lib.hid rfl⟩
  case round =>
    obtain ⟨k, s, z, hk, rfl, rfl, rfl, hs, HK⟩ := hrel
    by_cases hlt : k < l.length
    · have hx : l[k]? = some l[k] := List.getElem?_eq_getElem hlt
      generalize l[k] = r at hx
      obtain ⟨b, off, rfl, hb, h1⟩ := hw k r hx
      have hst := HK.out
      rw [drop_cons hx, setS] at hst
      clear hx HK hw
      rcases Int.lt_or_le r 0 with a1 | a1
      · rw [if_pos (.inl a1)] at hst
        have HT := Lib.hid hst
        clear hst
        go_wp2
        go_ret2
        exact ⟨by rw [← HT.out]; rfl, rfl⟩
      rcases Int.lt_or_le r rooms with a2 | a2
      rotate_left
      · rw [if_pos (.inr a2)] at hst
        have HT := Lib.hid hst
        clear hst
        go_wp2
        go_ret2
        exact ⟨by rw [← HT.out]; rfl, rfl⟩
      rw [if_neg (by omega)] at hst
      by_cases a3 : r ≤ z
      · rw [if_pos a3] at hst
        have HT := Lib.hid hst
        clear hst
        go_wp2
        go_ret2
        exact ⟨by rw [← HT.out]; rfl, rfl⟩
      · rw [if_neg a3] at hst
        have HT := Lib.hid hst
        clear hst
        obtain ⟨ob1, ob2⟩ := or_bit hr6 hs a1 a2
        generalize s ||| 2 ^ (rooms - 1 - r.toNat) = t at HT ob1 ob2
        go_wp2_with (go_at_call 88; refine (bit_any _ _ _ (by assumption) (by assumption) (by assumption)).mono ?_; rintro e w' ⟨rfl, rfl⟩)
        go_round
        case rel => exact ⟨k + 1, t, r, by omega, by go_num, rfl, rfl, ob2, HT⟩
        case measure => simp [intOf]; omega
    · have : k = l.length := by omega
      subst this
      have HT := Lib.hid (show setS rooms l 0 (-1) = (s, 0) by rw [← HK.out, List.drop_length]; rfl)
      clear HK
      go_wp2
      go_ret2
      exact ⟨by rw [HT.out]; rfl, rfl⟩

/-- The rooms of a set that are below k. -/
def listK (rooms s : Nat) : Nat → List Int
  | 0 => []
  | k + 1 => if memP rooms s (k : Int) then listK rooms s k ++ [(k : Int)] else listK rooms s k
def listS (rooms s : Nat) : List Int := listK rooms s rooms

theorem listK_len (rooms s k : Nat) : (listK rooms s k).length ≤ k := by
  induction k with
  | zero => simp [listK]
  | succ k ih =>
    rw [listK]
    split
    · rw [List.length_append]; simp; omega
    · omega

theorem own_ints {w : World} {base : Nat} {v : Value} {n : Nat} {l : List Int} (h : w.ownsRow base 3 1 v n (l.map (Value.int .i64))) : ∃ A c, v = .slice A l.length c ∧ IntsAt w w.heap.size A l := by
  have hn : n = l.length := by have := h.1; rw [List.length_map] at this; omega
  subst hn
  rcases h.2 with ⟨rfl, h0⟩ | ⟨g, cap, cur, rfl, h2⟩
  · have : l = [] := by simpa using h0
    subst this
    exact ⟨none, 0, rfl, IntsAt.nil _ _ _⟩
  · refine ⟨some ⟨g, 0, none⟩, cap, rfl, fun k x hx => ?_⟩
    have hc := h.cells (g := g) rfl k (.int .i64 x) (by simp [hx])
    refine ⟨g, 0, rfl, (h.lt g rfl).2, ?_⟩
    rw [show (⟨g, 0 + k, none⟩ : Addr) = (⟨g, 0, none⟩ : Addr).add k by unfold Addr.add; split <;> simp_all]
    exact hc

theorem cells_one (w : World) (k : IntKind) (x : Int) (t : TypeId) : ∀ (j : Nat) (u : Value), [Value.int k x][j]? = some u → (w.alloc (.cells #[.int k x] t)).cell? ((⟨w.heap.size, 0, none⟩ : Addr).add j) = some u := by
  intro j u hu
  rcases j with _ | j
  · simp at hu; subst hu; simp [Addr.add, go_sem]
  · simp at hu

theorem ret_val {u v : Value} (h : u = v) : Ending.returned u = .returned v := by rw [h]

/-- A list is handed back. -/
def RetInts (w : World) (l : List Int) (e : Ending) (w' : World) : Prop := ∃ A c, e = .returned (.slice A l.length c) ∧ IntsAt w' w'.heap.size A l ∧ Below w.heap.size w w'

theorem info3 : (Tryd.prog.info? 3).map (fun i => (i.zero, i.size, i.bytes)) = some (some (.int .i64 0), 1, 8) := by kernel_rfl

set_option maxHeartbeats 1000000 in
theorem listOf_any (rooms s : Nat) (w : World) (hr6 : rooms ≤ 6) (hs : s < 64) :
    Calls Tryd.prog 68 #[.int .i64 rooms, .int .i64 s] w (RetInts w (listS rooms s)) := by
  obtain ⟨i0, hi, hz0, hz1, hz2⟩ := info_parts info3
  go_enter Tryd.func68, Tryd.ntmps68
  go_wp2
  go_loopw [5, 8] (fun v i wr => ∃ k : Nat, k ≤ rooms ∧ i = .int .i64 k ∧ wr.ownsRow w.heap.size 3 1 v (listK rooms s k).length ((listK rooms s k).map (Value.int .i64)) ∧ Below w.heap.size w wr) (fun _ i _ => rooms - (intOf i).toNat)
  case atStart => exact ⟨0, Nat.zero_le _, rfl, World.ownsRow_nil _ _ _ _, Below.refl _ _⟩
  case round =>
    obtain ⟨k, hk, rfl, hown, hbw⟩ := hrel
    by_cases hlt : k < rooms
    · have p1 := bits_mem rooms s k hr6 hs
      have hlk := listK_len rooms s k
      have hki : (0 : Int) ≤ (k : Int) := by omega
      have hkj : (k : Int) < (rooms : Int) := by omega
      rcases hm : memP rooms s k with _ | _ <;> rw [hm] at p1
      · have HL := Lib.hid (show listK rooms s (k + 1) = listK rooms s k by rw [listK, hm]; rfl)
        clear hm
        go_wp2_with (go_at_call 88; refine (bit_any _ _ _ (by assumption) (by assumption) (by assumption)).mono ?_; rintro e w' ⟨rfl, rfl⟩)
        go_roundw
        case rel => exact ⟨k + 1, by omega, by go_num, by rw [HL.out]; exact hown, hbw⟩
        case measure => simp [intOf]; omega
      · have HL := Lib.hid (show listK rooms s (k + 1) = listK rooms s k ++ [(k : Int)] by rw [listK, hm]; rfl)
        clear hm
        go_wp2_with (first
          | (go_at_call 88; refine (bit_any _ _ _ (by assumption) (by assumption) (by assumption)).mono ?_; rintro e w' ⟨rfl, rfl⟩)
          | (at_builtin; refine wpList_append_own _ rfl _ _ 25 rfl w.heap.size 3 i0 (.int .i64 0) 1 8 Tryd.underlying25 hi hz0 hz1 hz2 rfl (by decide) _ _ _ rfl (hown.alloc _) ⟨wr.heap.size, 0, none⟩ 1 1 [.int .i64 (k : Int)] rfl rfl ?c1 ?c2 ?c3 ?c4 ?c5 ?_))
        case c1 => exact cells_one _ _ _ _
        case c2 => intro u hu; simp at hu; subst hu; rfl
        case c3 => unfold maxLen; omega
        case c4 => omega
        case c5 => have := hbw.size; simp; omega
        intro v' w1 hown' hgrow _
        have hbn : Below w.heap.size w w1 := (hbw.alloc hbw.size _).grown hgrow (by simp; have := hbw.size; omega) (fun g hg => (hown.lt g hg).1)
        clear hgrow
        go_wp2
        go_roundw
        case rel => exact ⟨k + 1, by omega, by go_num, by rw [HL.out, List.length_append, List.map_append]; exact hown', hbn⟩
        case measure => simp [intOf]; omega
    · have : k = rooms := by omega
      subst this
      have HO := Lib.hid (own_ints hown)
      go_wp2
      go_ret
      obtain ⟨A, c, hv, hA⟩ := HO.out
      exact ⟨A, c, ret_val hv, hA, hbw⟩
end Go.Proofs.YtcebihijnedekaaDoor
