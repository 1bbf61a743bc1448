/-
  The library's sort of lists of lists, by the library's order of lists.
-/
import Derived.Test.YtbcbaaapogejiaaDoorLibA
import Derived.Shelf.SlSortCmp.Small
import Derived.Shelf.Small.Bits
import Derived.Shelf.Lay
import Derived.Ground.SlsfProg
import Derived.Ground.NamesProg
namespace Go.Proofs.YtbcbaaapogejiaaDoor
open Go.RowKit Go.Shelf
shelf_lay_g SlLaysF.n6 Slsf 6 at Tryd 123 as Tryd.sortL
shelf_lay Lays.n125 Nm 125 at Tryd as Tryd.bitsLen

theorem swo_cmp (f : Nat → List Int) : Go.Sort.SWO (ltOf fun x y => cmpL (f x) (f y)) where
  irrefl x := by simp [ltOf, cmpL_self]
  trans x y z h1 h2 := by
    simp only [ltOf, decide_eq_true_eq] at *
    exact cmpL_trans h1 h2
  ntrans x y z h1 h2 := by
    simp only [ltOf, decide_eq_false_iff_not, Int.not_lt] at *
    have a1 := cmpL_swap (f x) (f y)
    have a2 := cmpL_swap (f y) (f z)
    have a3 := cmpL_swap (f x) (f z)
    by_cases e1 : cmpL (f x) (f y) = 0
    · rw [cmpL_zero e1]; exact h2
    · by_cases e2 : cmpL (f y) (f z) = 0
      · rw [← cmpL_zero e2]; exact h1
      · have := cmpL_trans (l := f z) (m := f y) (n := f x) (by omega) (by omega)
        omega

/-- Slices of numbers by their numbers, in blocks that are none of some. -/
def EncOf (w : World) (g : Nat) (enc : Nat → Value) (f : Nat → List Int) : Prop := ∀ x, ∃ A c, enc x = .slice A (f x).length c ∧ IntsAt w w.heap.size A (f x) ∧ (∀ ad, A = some ad → ad.block ≠ g) ∧ (f x).length < 1000000

theorem sort_any (enc : Nat → Value) (f : Nat → List Int) (g cap : Nat) (d : Array Nat) (w : World) (hE : EncOf w g enc f) (hH : Go.Sort.Holds enc w g 0 d) (h12 : d.size ≤ 12) :
    Calls Tryd.prog 123 #[.slice (some ⟨g, 0, none⟩) d.size cap, .func (.func 124) #[] #[]] w fun e w' => e = .returned (.tuple #[]) ∧ ∃ d' n, Go.Sort.PermIn 0 d.size d d' ∧ Go.Sort.SortedIn (ltOf fun x y => cmpL (f x) (f y)) 0 d.size d' ∧ w' = (Go.Sort.putRow enc w g 0 d').drewN n := by
  have eg : ∀ args w, (callFunc 124 args).run Tryd.prog w = .ok (.enter 124 args) w := enters_of Tryd.func124 (by kernel_rfl) rfl
  refine Any.slices_SortFunc_small_sorted Tryd.sortL enc ?_ (fun x y => cmpL (f x) (f y)) (swo_cmp f) 124 #[] g 0 cap d w eg ?_ hH h12 ?_
  · intro x
    obtain ⟨A, c, h, _⟩ := hE x
    rw [h]; rfl
  · intro m os dk hdk x y
    obtain ⟨A, c, h1, h2, h3, h4⟩ := hE x
    obtain ⟨D, e, k1, k2, k3, k4⟩ := hE y
    have hk : ∀ (b o : Nat), b < w.heap.size → b ≠ g → (sortWorld enc w g 0 m dk os).cell? ⟨b, o, none⟩ = w.cell? ⟨b, o, none⟩ := by
      intro b o hb hne
      unfold sortWorld
      rw [Go.Sort.cell?_grow _ _ _ (by simpa using hb), Go.Sort.cell?_putRow_other _ _ _ _ _ _ (.inl hne)]
      rfl
    have up : ∀ {A : Option Addr} {l : List Int}, IntsAt w w.heap.size A l → (∀ ad, A = some ad → ad.block ≠ g) → IntsAt (sortWorld enc w g 0 m dk os) w.heap.size A l := by
      intro A l h hn k x hx
      obtain ⟨b, off, e1, e2, e3⟩ := h k x hx
      exact ⟨b, off, e1, e2, (hk b _ e2 (hn _ e1)).trans e3⟩
    have hcon := compare_any A D c e (f x) (f y) (sortWorld enc w g 0 m dk os) h4 w.heap.size (up h2 h3) (up k2 k3)
    rw [← h1, ← k1] at hcon
    exact hcon.mono fun e w' ⟨he, hw⟩ => ⟨he, 0, hw⟩
  · intro n W hn
    exact (Any.bits_Len Tryd.bitsLen n W (by omega) (by omega)).mono fun _ _ ⟨he, hw⟩ => ⟨⟨_, he⟩, hw⟩
end Go.Proofs.YtbcbaaapogejiaaDoor
