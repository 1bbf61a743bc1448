/-
  The library's sort of lists of lists, by the library's order of lists.
-/
import Derived.Test.YtbcbaaapogejiaaDoorLibA
import Derived.Shelf.SlSortCmp.Small
import Derived.Shelf.Small.Bits
import Derived.Ground.SlsfProg
import Derived.Ground.NamesProg
namespace Go.Proofs.YtbcbaaapogejiaaDoor
open Go.RowKit Go.Shelf
def Tryd.sortL_ren : Go.Shelf.Ren := ⟨fun | 6 => 123 | 15 => 142 | 14 => 141 | 28 => 160 | 29 => 161 | 20 => 152 | 21 => 153 | 22 => 154 | 23 => 155 | 24 => 156 | 25 => 157 | 26 => 158 | 27 => 159 | 46 => 167 | 47 => 168 | 48 => 169 | 49 => 170 | 50 => 171 | 57 => 172 | n => n, fun | 22 => 43 | 24 => 22 | 25 => 133 | 3 => 3 | 39 => 201 | 0 => 0 | 53 => 222 | 55 => 148 | 4 => 4 | 46 => 216 | 45 => 215 | 50 => 206 | 5 => 5 | 9 => 9 | 66 => 225 | 70 => 229 | 76 => 233 | 77 => 166 | n => n, fun | n => n⟩
theorem Tryd.sortL : Go.Proofs.SlLaysF.n6 Tryd.prog Tryd.sortL_ren := {
  mixed := by kernel_rfl
  f6 := ⟨Tryd.f123.name, by decide, Tryd.func123.trans (congrArg some (by kernel_rfl))⟩
  f14 := ⟨Tryd.f141.name, by decide, Tryd.func141.trans (congrArg some (by kernel_rfl))⟩
  f15 := Tryd.func142.trans (congrArg some (by kernel_rfl))
  f20 := ⟨Tryd.f152.name, by decide, Tryd.func152.trans (congrArg some (by kernel_rfl))⟩
  f21 := ⟨Tryd.f153.name, by decide, Tryd.func153.trans (congrArg some (by kernel_rfl))⟩
  f22 := ⟨Tryd.f154.name, by decide, Tryd.func154.trans (congrArg some (by kernel_rfl))⟩
  f23 := ⟨Tryd.f155.name, by decide, Tryd.func155.trans (congrArg some (by kernel_rfl))⟩
  f24 := ⟨Tryd.f156.name, by decide, Tryd.func156.trans (congrArg some (by kernel_rfl))⟩
  f25 := ⟨Tryd.f157.name, by decide, Tryd.func157.trans (congrArg some (by kernel_rfl))⟩
  f26 := ⟨Tryd.f158.name, by decide, Tryd.func158.trans (congrArg some (by kernel_rfl))⟩
  f27 := ⟨Tryd.f159.name, by decide, Tryd.func159.trans (congrArg some (by kernel_rfl))⟩
  f28 := Tryd.func160.trans (congrArg some (by kernel_rfl))
  f29 := Tryd.func161.trans (congrArg some (by kernel_rfl))
  f46 := ⟨Tryd.f167.name, by decide, Tryd.func167.trans (congrArg some (by kernel_rfl))⟩
  f47 := Tryd.func168.trans (congrArg some (by kernel_rfl))
  f48 := Tryd.func169.trans (congrArg some (by kernel_rfl))
  f49 := ⟨Tryd.f170.name, by decide, Tryd.func170.trans (congrArg some (by kernel_rfl))⟩
  f50 := ⟨Tryd.f171.name, by decide, Tryd.func171.trans (congrArg some (by kernel_rfl))⟩
  f57 := ⟨Tryd.f172.name, by decide, Tryd.func172.trans (congrArg some (by kernel_rfl))⟩
  t0 := Tryd.underlying0
  a0 := Tryd.isAgg0
  z0 := Tryd.sizeOf0
  v0 := Tryd.zeroValue0
  t3 := Tryd.underlying3
  a3 := Tryd.isAgg3
  z3 := Tryd.sizeOf3
  v3 := Tryd.zeroValue3
  t4 := Tryd.underlying4
  a4 := Tryd.isAgg4
  z4 := Tryd.sizeOf4
  v4 := Tryd.zeroValue4
  t5 := Tryd.underlying5
  a5 := Tryd.isAgg5
  z5 := Tryd.sizeOf5
  v5 := Tryd.zeroValue5
  t9 := Tryd.underlying9
  a9 := Tryd.isAgg9
  z9 := Tryd.sizeOf9
  v9 := Tryd.zeroValue9
  t22 := Tryd.underlying43
  a22 := Tryd.isAgg43
  z22 := Tryd.sizeOf43
  v22 := Tryd.zeroValue43
  a24 := Tryd.isAgg22
  z24 := Tryd.sizeOf22
  t25 := Tryd.underlying133
  a25 := Tryd.isAgg133
  z25 := Tryd.sizeOf133
  v25 := Tryd.zeroValue133
  t39 := Tryd.underlying201
  a39 := Tryd.isAgg201
  z39 := Tryd.sizeOf201
  v39 := Tryd.zeroValue201
  t45 := Tryd.underlying215
  a45 := Tryd.isAgg215
  z45 := Tryd.sizeOf215
  v45 := Tryd.zeroValue215
  t46 := Tryd.underlying216
  a46 := Tryd.isAgg216
  z46 := Tryd.sizeOf216
  v46 := Tryd.zeroValue216
  t50 := Tryd.underlying206
  a50 := Tryd.isAgg206
  z50 := Tryd.sizeOf206
  v50 := Tryd.zeroValue206
  t53 := Tryd.underlying222
  a53 := Tryd.isAgg222
  z53 := Tryd.sizeOf222
  v53 := Tryd.zeroValue222
  t55 := Tryd.underlying148
  a55 := Tryd.isAgg148
  z55 := Tryd.sizeOf148
  v55 := Tryd.zeroValue148
  t66 := Tryd.underlying225
  a66 := Tryd.isAgg225
  z66 := Tryd.sizeOf225
  v66 := Tryd.zeroValue225
  t70 := Tryd.underlying229
  a70 := Tryd.isAgg229
  z70 := Tryd.sizeOf229
  v70 := Tryd.zeroValue229
  t76 := Tryd.underlying233
  a76 := Tryd.isAgg233
  z76 := Tryd.sizeOf233
  v76 := Tryd.zeroValue233
  t77 := Tryd.underlying166
  a77 := Tryd.isAgg166
  z77 := Tryd.sizeOf166
  v77 := Tryd.zeroValue166 }
def Tryd.bitsLen_ren : Go.Shelf.Ren := ⟨fun | 125 => 142 | 128 => 160 | 129 => 161 | n => n, fun | 46 => 201 | 3 => 3 | 51 => 222 | 53 => 148 | 4 => 4 | 5 => 5 | 9 => 9 | n => n, fun | n => n⟩
theorem Tryd.bitsLen : Go.Proofs.Lays.n125 Tryd.prog Tryd.bitsLen_ren := {
  mixed := by kernel_rfl
  f125 := Tryd.func142.trans (congrArg some (by kernel_rfl))
  f128 := Tryd.func160.trans (congrArg some (by kernel_rfl))
  f129 := Tryd.func161.trans (congrArg some (by kernel_rfl))
  t3 := Tryd.underlying3
  a3 := Tryd.isAgg3
  z3 := Tryd.sizeOf3
  v3 := Tryd.zeroValue3
  t4 := Tryd.underlying4
  a4 := Tryd.isAgg4
  z4 := Tryd.sizeOf4
  v4 := Tryd.zeroValue4
  t5 := Tryd.underlying5
  a5 := Tryd.isAgg5
  z5 := Tryd.sizeOf5
  v5 := Tryd.zeroValue5
  t9 := Tryd.underlying9
  a9 := Tryd.isAgg9
  z9 := Tryd.sizeOf9
  v9 := Tryd.zeroValue9
  t46 := Tryd.underlying201
  a46 := Tryd.isAgg201
  z46 := Tryd.sizeOf201
  v46 := Tryd.zeroValue201
  t51 := Tryd.underlying222
  a51 := Tryd.isAgg222
  z51 := Tryd.sizeOf222
  v51 := Tryd.zeroValue222
  t53 := Tryd.underlying148
  a53 := Tryd.isAgg148
  z53 := Tryd.sizeOf148
  v53 := Tryd.zeroValue148 }

theorem swo_cmp (f : Nat → List Int) : Go.Sort.SWO (ltOf fun x y => cmpL (f x) (f y)) where
  irrefl x := by simp [ltOf, cmpL_self]
  trans x y z h1 h2 := by
    simp only [ltOf, decide_eq_true_eq] at *
    exact cmpL_trans h1 h2
  ntrans x y z h1 h2 := by
    simp only [ltOf, decide_eq_false_iff_not, Int.not_lt] at *
    have a1 := cmpL_swap (f x) (f y)
    have a2 := cmpL_swap (f y) (f z)
    have a3 := cmpL_swap (f x) (f z)
    by_cases e1 : cmpL (f x) (f y) = 0
    · rw [cmpL_zero e1]; exact h2
    · by_cases e2 : cmpL (f y) (f z) = 0
      · rw [← cmpL_zero e2]; exact h1
      · have := cmpL_trans (l := f z) (m := f y) (n := f x) (by omega) (by omega)
        omega

/-- Slices of numbers by their numbers, in blocks that are none of some. -/
def EncOf (w : World) (g : Nat) (enc : Nat → Value) (f : Nat → List Int) : Prop := ∀ x, ∃ A c, enc x = .slice A (f x).length c ∧ IntsAt w w.heap.size A (f x) ∧ (∀ ad, A = some ad → ad.block ≠ g) ∧ (f x).length < 1000000

theorem sort_any (enc : Nat → Value) (f : Nat → List Int) (g cap : Nat) (d : Array Nat) (w : World) (hE : EncOf w g enc f) (hH : Go.Sort.Holds enc w g 0 d) (h12 : d.size ≤ 12) :
    Calls Tryd.prog 123 #[.slice (some ⟨g, 0, none⟩) d.size cap, .func (.func 124) #[] #[]] w fun e w' => e = .returned (.tuple #[]) ∧ ∃ d' n, Go.Sort.PermIn 0 d.size d d' ∧ Go.Sort.SortedIn (ltOf fun x y => cmpL (f x) (f y)) 0 d.size d' ∧ w' = (Go.Sort.putRow enc w g 0 d').drewN n := by
  have eg : ∀ args w, (callFunc 124 args).run Tryd.prog w = .ok (.enter 124 args) w := enters_of Tryd.func124 (by kernel_rfl) rfl
  refine Any.slices_SortFunc_small_sorted Tryd.sortL enc ?_ (fun x y => cmpL (f x) (f y)) (swo_cmp f) 124 #[] g 0 cap d w eg ?_ hH h12 ?_
  · intro x
    obtain ⟨A, c, h, _⟩ := hE x
    rw [h]; rfl
  · intro m os dk hdk x y
    obtain ⟨A, c, h1, h2, h3, h4⟩ := hE x
    obtain ⟨D, e, k1, k2, k3, k4⟩ := hE y
    have hk : ∀ (b o : Nat), b < w.heap.size → b ≠ g → (sortWorld enc w g 0 m dk os).cell? ⟨b, o, none⟩ = w.cell? ⟨b, o, none⟩ := by
      intro b o hb hne
      unfold sortWorld
      rw [Go.Sort.cell?_grow _ _ _ (by simpa using hb), Go.Sort.cell?_putRow_other _ _ _ _ _ _ (.inl hne)]
      rfl
    have up : ∀ {A : Option Addr} {l : List Int}, IntsAt w w.heap.size A l → (∀ ad, A = some ad → ad.block ≠ g) → IntsAt (sortWorld enc w g 0 m dk os) w.heap.size A l := by
      intro A l h hn k x hx
      obtain ⟨b, off, e1, e2, e3⟩ := h k x hx
      exact ⟨b, off, e1, e2, (hk b _ e2 (hn _ e1)).trans e3⟩
    have hcon := compare_any A D c e (f x) (f y) (sortWorld enc w g 0 m dk os) h4 w.heap.size (up h2 h3) (up k2 k3)
    rw [← h1, ← k1] at hcon
    exact hcon.mono fun e w' ⟨he, hw⟩ => ⟨he, 0, hw⟩
  · intro n W hn
    exact (Any.bits_Len Tryd.bitsLen n W (by omega) (by omega)).mono fun _ _ ⟨he, hw⟩ => ⟨⟨_, he⟩, hw⟩
end Go.Proofs.YtbcbaaapogejiaaDoor
