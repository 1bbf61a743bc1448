/-
  Which turns cells show, and the fewest cells that show all.
-/
import Derived.Test.YtbcbaaapogejiaaDoorStpA
import Derived.Test.YtbcbaaapogejiaaDoorLibB
import Derived.Laws.OwnMore
namespace Go.Proofs.YtbcbaaapogejiaaDoor
open Go.RowKit

/-- Sets that lie in memory: bytes. -/
def SetsAt (w : World) (B : Nat) (A : Option Addr) (l : List Nat) : Prop :=
  ∀ (k : Nat) (x : Nat), l[k]? = some x → ∃ b off, A = some ⟨b, off, none⟩ ∧ b < B ∧ w.cell? ⟨b, off + k, none⟩ = some (.int .u8 x)
theorem SetsAt.below {w w' : World} {B B' : Nat} {A : Option Addr} {l : List Nat} (h : SetsAt w B A l) (hb : Below B' w w') (hB : B ≤ B') : SetsAt w' B A l := by
  intro k x hx
  obtain ⟨b, off, h1, h2, h3⟩ := h k x hx
  exact ⟨b, off, h1, h2, (hb.cell (p := ⟨b, _, none⟩) (by simp; omega)).trans h3⟩
theorem SetsAt.mono {w : World} {B B' : Nat} {A : Option Addr} {l : List Nat} (h : SetsAt w B A l) (hB : B ≤ B') : SetsAt w B' A l := by
  intro k x hx
  obtain ⟨b, off, h1, h2, h3⟩ := h k x hx
  exact ⟨b, off, h1, by omega, h3⟩
theorem SetsAt.up {w w' : World} {A : Option Addr} {l : List Nat} (h : SetsAt w w.heap.size A l) (hb : Below w.heap.size w w') : SetsAt w' w'.heap.size A l := (h.below hb (Nat.le_refl _)).mono hb.size

def unionN (l : List Nat) : Nat := l.foldl (· ||| ·) 0
theorem unionN_snoc (l : List Nat) (x : Nat) : unionN (l ++ [x]) = unionN l ||| x := by simp [unionN]
theorem or_lt {a b : Nat} (ha : a < 256) (hb : b < 256) : a ||| b < 256 := Nat.or_lt_two_pow (n := 8) ha hb
theorem unionN_lt : ∀ {l : List Nat}, (∀ x ∈ l, x < 256) → unionN l < 256 := by
  have key : ∀ (l : List Nat) (a : Nat), a < 256 → (∀ x ∈ l, x < 256) → l.foldl (· ||| ·) a < 256 := by
    intro l
    induction l with
    | nil => intro a ha _; exact ha
    | cons x l ih => intro a ha h; exact ih (a ||| x) (or_lt ha (h x (by simp))) fun y hy => h y (by simp [hy])
  intro l h
  exact key l 0 (by decide) h

/-- What is not in a set. -/
def minusN (a b : Nat) : Nat := a &&& (255 - b)
theorem minusN_lt {a b : Nat} (ha : a < 256) : minusN a b < 256 := Nat.lt_of_le_of_lt Nat.and_le_left ha

set_option maxHeartbeats 4000000 in
theorem union_any (A : Option Addr) (c : Nat) (l : List Nat) (w : World) (B : Nat) (hA : SetsAt w B A l) (hl : ∀ x ∈ l, x < 256) (hn : l.length < 1000) :
    Calls Tryd.prog 100 #[.slice A l.length c] w fun e w' => e = .returned (.int .u8 (unionN l)) ∧ w' = w := by
  have HA := Lib.hid hA
  have HL := Lib.hid hl
  clear hA hl
  go_enter Tryd.func100, Tryd.ntmps100
  go_wp2
  go_loopw [3, 8] (fun v i wr => ∃ k a : Nat, k ≤ l.length ∧ i = .int .i64 k ∧ v = .int .u8 a ∧ Hid (a = unionN (l.take k)) ∧ wr = w) (fun _ i _ => l.length - (intOf i).toNat)
  case atStart => exact ⟨0, 0, Nat.zero_le _, rfl, rfl, Lib.hid rfl, rfl⟩
  case round =>
    obtain ⟨k, a, hk, rfl, rfl, HK, rfl⟩ := hrel
    by_cases hlt : k < l.length
    · have hx : l[k]? = some l[k] := List.getElem?_eq_getElem hlt
      obtain ⟨b, off, rfl, hb, d⟩ := HA.out k _ hx
      have hx8 := HL.out _ (mem_of_get hx)
      have HN := Lib.hid (show a ||| l[k] = unionN (l.take (k + 1)) by rw [take_snoc hx, unionN_snoc, ← HK.out])
      have HN2 := Lib.hid (show a < 256 by rw [HK.out]; exact unionN_lt fun y hy => HL.out y (List.mem_of_mem_take hy))
      clear hx
      generalize l[k] = x at *
      have hki : (k : Int) < (l.length : Int) := by omega
      go_wp2
      have ha8 := HN2.out
      have hor := u8_or_nat a x ha8 hx8
      go_wp2
      go_roundw
      case rel => exact ⟨k + 1, a ||| x, by omega, by go_num, by rw [hor], HN, trivial⟩
      case measure => simp [intOf]; omega
    · have e : k = l.length := by omega
      subst e
      have hki : ¬ (l.length : Int) < (l.length : Int) := by omega
      have e1 := HK.out
      rw [List.take_length] at e1
      have HE := Lib.hid e1
      clear e1
      go_wp2
      go_ret
      exact ⟨by rw [← HE.out]; rfl, rfl⟩
end Go.Proofs.YtbcbaaapogejiaaDoor
