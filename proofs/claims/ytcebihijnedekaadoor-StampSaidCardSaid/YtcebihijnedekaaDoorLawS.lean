/-
  The walk of the statement on what rooms say: it answers true.
-/
import Derived.Test.YtcebihijnedekaaDoorLawG
import Derived.Test.YtcebihijnedekaaDoorMathJ
namespace Go.Proofs.YtcebihijnedekaaDoor
open Go.RowKit

set_option maxRecDepth 100000 in
set_option maxHeartbeats 8000000 in
theorem lawSaid_F (w : World) (q p : Int) (A : Option Addr) (c : Nat) (hs : List H4) (hq : 0 ≤ q ∧ q ≤ 255) (hp : 0 ≤ p ∧ p ≤ 255) (hok : ∀ h ∈ hs, okH h) (hw : HouseAt w w.heap.size A hs) (ht : SizesAt w) (hag0 : agrS (roomsH q).toNat (madeS q hs 5) = false) :
    Calls Tryd.prog 10 #[.agg #[.int .u8 q, .slice A hs.length c], .int .u8 p] w fun e w' => e = .returned (.bool true) ∧ Below w.heap.size w w' := by
  have hnil1 : ∀ W : World, (binOp .eql 25 (.slice none 0 0) (.slice none 0 0)).run Tryd.prog W = .ok (.bool true) W := fun W => run_eql_slice_nil W 25 3 none 0 0 Tryd.underlying25
  have hnil2 : ∀ (W : World) (ad : Addr) (n c : Nat), (binOp .eql 25 (.slice (some ad) n c) (.slice none 0 0)).run Tryd.prog W = .ok (.bool false) W := fun W ad n c => run_eql_slice_nil W 25 3 (some ad) n c Tryd.underlying25
  have hw1 := fun o => (hw.below ((Below.refl w.heap.size w).alloc (Nat.le_refl _) o) (Nat.le_refl _)).mono (B' := (w.alloc o).heap.size) (by simp)
  have ht1 := fun o => ht.alloc o
  have HM := Lib.hid (fun W hW => made_any q hq A c 5 hs W (by decide) hok hW)
  obtain ⟨rooms, hR, _, hr4, hch, hv, hsd, hwd⟩ := chk_made (r := q) (hs := hs) (most := 5) hok (by decide)
  rw [hR] at HM hag0
  change agrS rooms (madeS q hs 5) = false at hag0
  have hl5 := madeS_len q hs 5
  generalize madeS q hs 5 = ws at HM hch hv hsd hwd hl5 hag0
  have wp1 : IntKind.i64.wrap p = p := IntWalk.i64_in _ (by omega)
  by_cases hws : ws.length = 0
  · have hz : ws = [] := List.eq_nil_of_length_eq_zero hws
    subst hz
    have e2 : sysS rooms [] [] 0 = (0, 2) := by
      unfold sysS chkN
      rw [hch]
      rfl
    have H40 := Lib.hid (fun A' c' W hW => says40_any rooms 0 A' none c' 0 [] [] W (by simp) hW (IntsAt.nil _ _ _))
    rw [e2] at H40
    clear hw ht hok hR hch hv hsd hwd e2
    go_enter Tryd.func10, Tryd.ntmps10
    go_wp2_with (first
      | (go_at_call 44; refine (HM.out _ (hw1 _)).mono ?_; rintro e w1 ⟨A1, c1, rfl, hA1, hb1⟩; have hs1 := hb1.size; simp only [World.size_alloc] at hs1; have ht2 := ((ht1 _).below hb1).below (bnew w1 (.cells #[.int .i64 rooms, .slice A1 0 c1] 24)); have hA1' := waysUp hA1 (bnew w1 (.cells #[.int .i64 rooms, .slice A1 0 c1] 24)))
      | (go_at_call 40; refine (H40.out A1 c1 _ hA1').mono ?_; rintro e w2 ⟨rfl, hb2⟩; have hs2 := hb2.size; simp only [World.size_alloc] at hs2; have ht3 := ht2.below hb2)
      | (go_at_call 16; refine (works_any _ ht3).mono ?_; rintro e w3 ⟨rfl, hb3⟩))
    go_ret
    exact ⟨rfl, ((Below.refl _ _).alloc (Nat.le_refl _) _).trans ((hb1.mono (by simp)).trans (((bnew w1 _).mono (by omega)).trans ((hb2.mono (by simp; omega)).trans (hb3.mono (by omega)))))⟩
  have hNpos : 0 < ws.length := by omega
  obtain ⟨i, hik⟩ : ∃ i, i = p.toNat % ws.length := ⟨_, rfl⟩
  have hil : i < ws.length := by rw [hik]; exact Nat.mod_lt _ hNpos
  have vrem : p.tmod (ws.length : Int) = (i : Int) := by rw [rem_len hp.1, hik]
  have hne0 : ((ws.length : Int) == 0) = false := by simpa using (by omega : ¬ (ws.length : Int) = 0)
  have hne1 : ¬ (ws.length : Int) = 0 := by omega
  have hii : (i : Int) < (ws.length : Int) := by omega
  have hi0 : (0 : Int) ≤ (i : Int) := by omega
  clear hik hws
  have hx : ws[i]? = some ws[i] := List.getElem?_eq_getElem hil
  generalize ws[i] = x at hx
  have hway := hv.way x (mem_of_get hx)
  have HF := Lib.hid (fun A' c' W hW => flows_any rooms A' c' ws W hv hsd hwd hl5 hW)
  have hN : (flowsS ws).length ≤ 1024 := Nat.le_trans (putS_len hwd ws.length []) (Nat.le_trans (Nat.pow_le_pow_right (by decide) hl5) (by decide))
  have hfa := flows_agr hv
  have hr6 := hv.r6
  have hp64 : 2 ^ rooms ≤ 64 := pow_le_64 hr6
  have hsh : ∀ n : Nat, n = rooms → wrap64 (2 ^ n) = ((2 ^ rooms : Nat) : Int) := fun n h => by subst h; exact shl_val hr6
  have hr0 : (0 : Int) ≤ (rooms : Int) := by omega
  have hr1 : (rooms : Int) ≤ 6 := by omega
  have HX := Lib.hid hx
  have HS33 := Lib.hid (fun A' c' W hW hT => by have h := span33_any rooms i A' c' ws W hW hT; rw [spn_ofO hch hx] at h; exact h)
  have HS42 := Lib.hid (fun gr A' c' W hW hT => by have h := bound_any rooms i gr A' c' ws W hW hT; rw [bnd_of hch hx gr] at h; exact h)
  have HS46 := Lib.hid (fun (s : Nat) A' c' W (hs : s < 64) hW => sums_any rooms s i i A' c' ws W hv hs (fun j hj => by constructor <;> intro h <;> omega) hW)
  have HS40 := Lib.hid (fun (s : Nat) (hs : s < 2 ^ rooms) A' c' D d W hW hD => by have h := says40_any rooms i A' D c' d ws (listR s) W (by have := listRK_len s 6; show (listRK s 6).length ≤ 1000; omega) hW hD; rw [sys_list hv hch hs hx] at h; exact h)
  have HSUM := Lib.hid (fun (s : Nat) => says_sum (memR s) hx)
  have HSB := Lib.hid (fun (s : Nat) => And.intro (sL_bound hv (memR s) i ws.length) (sM_bound hv (memR s) i ws.length))
  have HFL := Lib.hid (fun (s : Nat) (hs : s < 2 ^ rooms) fl hm f hf => says_flow hv hs hx ((flowsS_mem hv fl).1 hm) (f := f) hf)
  have HLEN := Lib.hid (fun fl hm => flows_len hv (fl := fl) hm)
  have HBD := Lib.hid (fun gr h => best_boundO hv hx gr h)
  have HBIT := Lib.hid (fun (s : Nat) (hs : s < 64) => And.intro (bit_val1 s hs x.src.toNat (by omega)) (bit_val1 s hs x.dst.toNat (by omega)))
  have hx1 : x.src < 6 := by omega
  have hx2 : x.dst < 6 := by omega
  have hx3 := hway.1.1
  have hx4 := hway.2.1.1
  clear hch hv hsd hwd hok hR hway
  have hag : agrS rooms ws = false := hag0
  clear hag0
  · rw [hag] at HS33 HS42 hfa
    simp only [Bool.false_eq_true, if_false] at HS33 HS42
    have hall : (flowsS ws).length = 0 := by have := hfa; simpa using this.symm
    have hz : flowsS ws = [] := List.eq_nil_of_length_eq_zero hall
    rw [hz] at HF
    have hno : ∀ s, bestN (fun _ => false) s = none := by
      intro s
      induction s with
      | zero => rfl
      | succ s ih => rw [bestN]; simpa using ih
    clear HFL HLEN HBD hfa hN hall hz hag hx
    go_enter Tryd.func10, Tryd.ntmps10
    go_wp2_with (first
      | (go_at_call 44; refine (HM.out _ (hw1 _)).mono ?_; rintro e w1 ⟨A1, c1, rfl, hA1, hb1⟩; have hs1 := hb1.size; simp only [World.size_alloc] at hs1; have ht2 := ((ht1 _).below hb1).below (bnew w1 (.cells #[.int .i64 rooms, .slice A1 ws.length c1] 24)); have hA1' := waysUp hA1 (bnew w1 (.cells #[.int .i64 rooms, .slice A1 ws.length c1] 24)); obtain ⟨bx, ox, rfl, hbx, z1, z2, z3, z4⟩ := hA1 i x HX.out; have hA2' := waysUp hA1' (bnew (w1.alloc (.cells #[.int .i64 rooms, .slice (some ⟨bx, ox, none⟩) ws.length c1] 24)) (.cells #[.int .i64 x.src, .int .i64 x.dst, .int .i64 x.lo, .int .i64 x.hi] 74)); have ht2' := ht2.below (bnew (w1.alloc (.cells #[.int .i64 rooms, .slice (some ⟨bx, ox, none⟩) ws.length c1] 24)) (.cells #[.int .i64 x.src, .int .i64 x.dst, .int .i64 x.lo, .int .i64 x.hi] 74)))
      | (go_at_call 45; refine (HF.out _ c1 _ hA2').mono ?_; rintro e w2 ⟨A2, c2, rfl, hL2, hb2⟩; have hs2 := hb2.size; simp only [World.size_alloc] at hs2; have ht3 := ht2'.below hb2; have hA3 := waysUp hA2' hb2; have e0 : w2.cell? ⟨w1.heap.size, 0, none⟩ = some (.int .i64 rooms) := ((hb2.cell (p := ⟨w1.heap.size, 0, none⟩) (by simp; omega)).trans (by simp [go_sem])); have e1 : w2.cell? ⟨w1.heap.size, 1, none⟩ = some (.slice (some ⟨bx, ox, none⟩) ws.length c1) := ((hb2.cell (p := ⟨w1.heap.size, 1, none⟩) (by simp; omega)).trans (by simp [go_sem])); have f0 : w2.cell? ⟨w1.heap.size + 1, 0, none⟩ = some (.int .i64 x.src) := ((hb2.cell (p := ⟨w1.heap.size + 1, 0, none⟩) (by simp)).trans (by simp [go_sem])); have f1 : w2.cell? ⟨w1.heap.size + 1, 1, none⟩ = some (.int .i64 x.dst) := ((hb2.cell (p := ⟨w1.heap.size + 1, 1, none⟩) (by simp)).trans (by simp [go_sem])); have f2 : w2.cell? ⟨w1.heap.size + 1, 2, none⟩ = some (.int .i64 x.lo) := ((hb2.cell (p := ⟨w1.heap.size + 1, 2, none⟩) (by simp)).trans (by simp [go_sem])); have f3 : w2.cell? ⟨w1.heap.size + 1, 3, none⟩ = some (.int .i64 x.hi) := ((hb2.cell (p := ⟨w1.heap.size + 1, 3, none⟩) (by simp)).trans (by simp [go_sem])); have hz1 : w1.heap.size + 1 < w2.heap.size := (by omega); have hz1' : w1.heap.size < w2.heap.size := (by omega))
      | (go_at_call 33; refine (HS33.out _ c1 _ hA3 ht3).mono ?_; rintro e w3 ⟨rfl, hb3⟩; have hs3 := hb3.size; have ht4 := ht3.below hb3; have hA4 := waysUp hA3 hb3; have hL4 := hL2.up hb3; have g0 := (hb3.cell (p := ⟨w1.heap.size, 0, none⟩) hz1').trans e0; have g1 := (hb3.cell (p := ⟨w1.heap.size, 1, none⟩) hz1').trans e1; have k0 := (hb3.cell (p := ⟨w1.heap.size + 1, 0, none⟩) hz1).trans f0; have k1 := (hb3.cell (p := ⟨w1.heap.size + 1, 1, none⟩) hz1).trans f1; have k2 := (hb3.cell (p := ⟨w1.heap.size + 1, 2, none⟩) hz1).trans f2; have k3 := (hb3.cell (p := ⟨w1.heap.size + 1, 3, none⟩) hz1).trans f3; have hz3 : w1.heap.size + 1 < w3.heap.size := (by omega); have hz3' : w1.heap.size < w3.heap.size := (by omega)))
    have hb03 : Below w.heap.size w w3 := ((Below.refl _ _).alloc (Nat.le_refl _) _).trans ((hb1.mono (by simp)).trans (((bnew w1 _).mono (by omega)).trans (((bnew (w1.alloc _) _).mono (by simp; omega)).trans ((hb2.mono (by simp; omega)).trans (hb3.mono (by omega))))))
    have hws3 : w.heap.size ≤ w3.heap.size := by omega
    clear hb1 hb2 hb3 hs1 hs2 hs3 hw1 ht1 ht2 ht2' ht3 hA1 hA1' hA2' hA3 hL2 e0 e1 f0 f1 f2 f3 z1 z2 z3 z4 hbx hz1 hz1' HM HF hw ht HS33
    generalize w1.heap.size = g at *
    generalize 2 ^ rooms = N at *
    have HP64 := Lib.hid hp64
    go_loopw [14, 15, 16] (fun lo_ hi_ u wr => ∃ k : Nat, k ≤ N ∧ u = .int .i64 (k : Nat) ∧ lo_ = .slice none 0 0 ∧ hi_ = .slice none 0 0 ∧ Below w3.heap.size w3 wr) (fun _ _ u _ => N - (intOf u).toNat)
    case atStart => exact ⟨0, Nat.zero_le _, rfl, rfl, rfl, Below.refl _ _⟩
    case round =>
      obtain ⟨k, hk, rfl, rfl, rfl, hbw⟩ := hrel
      obtain ⟨w4, rfl⟩ : ∃ w4, w4 = wr := ⟨_, rfl⟩
      have G0 := (hbw.cell (p := ⟨g, 0, none⟩) hz3').trans g0
      have G1 := (hbw.cell (p := ⟨g, 1, none⟩) hz3').trans g1
      have K0 := (hbw.cell (p := ⟨g + 1, 0, none⟩) hz3).trans k0
      have K1 := (hbw.cell (p := ⟨g + 1, 1, none⟩) hz3).trans k1
      have K2 := (hbw.cell (p := ⟨g + 1, 2, none⟩) hz3).trans k2
      have K3 := (hbw.cell (p := ⟨g + 1, 3, none⟩) hz3).trans k3
      have hsw := hbw.size
      have hz4 : g + 1 < w4.heap.size := by omega
      have hz4' : g < w4.heap.size := by omega
      have hA5 := waysUp hA4 hbw
      have ht5 := ht4.below hbw
      by_cases hlt : k < N
      · have hk64 : k < 64 := Nat.lt_of_lt_of_le hlt HP64.out
        have hki : (k : Int) < (N : Int) := Int.ofNat_lt.2 hlt
        have hk0 : (0 : Int) ≤ (k : Int) := Int.natCast_nonneg k
        have H47 := Lib.hid (fun W => rooms47_any k W hk64)
        have H40 := Lib.hid (fun A' c' D d W hW hD => HS40.out k hlt A' c' D d W hW hD)
        have H46 := Lib.hid (fun A' c' W hW => HS46.out k A' c' W hk64 hW)
        have hsum := HSUM.out k
        obtain ⟨⟨sb1, sb2⟩, sb3, sb4⟩ := HSB.out k
        obtain ⟨t1, t2⟩ := HBIT.out k hk64
        have hlv : lv (memR k) x = (k.testBit x.src.toNat && !k.testBit x.dst.toNat) := rfl
        have hen : en (memR k) x = (k.testBit x.dst.toNat && !k.testBit x.src.toNat) := rfl
        have hside : sideV (memR k) x = if (k.testBit x.src.toNat && !k.testBit x.dst.toNat) = true then 1 else if (k.testBit x.dst.toNat && !k.testBit x.src.toNat) = true then 2 else 0 := rfl
        rw [hside] at H40
        rw [hlv, hen] at hsum
        generalize saysV (memR k) ws x = V at *
        generalize sL (memR k) ws i ws.length = a at *
        generalize sM (memR k) ws i ws.length = b at *
        have hab1 : 0 ≤ a ∧ a ≤ 500 := ⟨sb1, by omega⟩
        have hab2 : 0 ≤ b ∧ b ≤ 500 := ⟨sb3, by omega⟩
        generalize k.testBit x.src.toNat = u at *
        generalize k.testBit x.dst.toNat = v at *
        clear hlv hen hside sb1 sb2 sb3 sb4 HS40 HS46 HSUM HSB HBIT g0 g1 k0 k1 hA4 ht4
        cases u <;> cases v
        · -- neither
          simp at t1 t2 H40
          clear hsum
          go_wp2_with (first
            | (go_at_call 47; refine (H47.out _).mono ?_; rintro e w5 ⟨A5, c5, rfl, hi5, hb5⟩; have hs5 := hb5.size; have hA6 := waysUp hA5 hb5; have p0 := (hb5.cell (p := ⟨g, 0, none⟩) hz4').trans G0; have p1 := (hb5.cell (p := ⟨g, 1, none⟩) hz4').trans G1; have hz5 : g < w5.heap.size := (by omega))
            | (go_at_call 40; refine (H40.out _ c1 _ _ _ hA6 hi5).mono ?_; rintro e w6 ⟨rfl, hb6⟩; have hs6 := hb6.size; have hA7 := waysUp hA6 hb6; have hi6 := upiF hi5 hb6; have r0 := (hb6.cell (p := ⟨g, 0, none⟩) hz5).trans p0; have r1 := (hb6.cell (p := ⟨g, 1, none⟩) hz5).trans p1)
            | (go_at_call 46; refine (H46.out _ c1 _ hA7).mono ?_; rintro e w7 ⟨rfl, hb7⟩; have hs7 := hb7.size; have hi7 := upiF hi6 hb7; have hb47 : Below w4.heap.size w4 w7 := hb5.trans ((hb6.mono hs5).trans (hb7.mono (by omega))); have s0 := (hb47.cell (p := ⟨g + 1, 0, none⟩) hz4).trans K0; have s1 := (hb47.cell (p := ⟨g + 1, 1, none⟩) hz4).trans K1; have hz7 : g + 1 < w7.heap.size := (by omega)))
          go_quiet (fail)
          go_wp2_with fail
          go_roundw
          case rel => exact ⟨k + 1, hlt, by go_num, rfl, rfl, hbw.trans ((below_drewN' hb47 _).mono hsw)⟩
          case measure => simp [intOf]; omega
        · -- enters
          simp at t1 t2 H40 hsum
          subst hsum
          go_wp2_with (first
            | (go_at_call 47; refine (H47.out _).mono ?_; rintro e w5 ⟨A5, c5, rfl, hi5, hb5⟩; have hs5 := hb5.size; have hA6 := waysUp hA5 hb5; have p0 := (hb5.cell (p := ⟨g, 0, none⟩) hz4').trans G0; have p1 := (hb5.cell (p := ⟨g, 1, none⟩) hz4').trans G1; have hz5 : g < w5.heap.size := (by omega))
            | (go_at_call 40; refine (H40.out _ c1 _ _ _ hA6 hi5).mono ?_; rintro e w6 ⟨rfl, hb6⟩; have hs6 := hb6.size; have hA7 := waysUp hA6 hb6; have hi6 := upiF hi5 hb6; have r0 := (hb6.cell (p := ⟨g, 0, none⟩) hz5).trans p0; have r1 := (hb6.cell (p := ⟨g, 1, none⟩) hz5).trans p1)
            | (go_at_call 46; refine (H46.out _ c1 _ hA7).mono ?_; rintro e w7 ⟨rfl, hb7⟩; have hs7 := hb7.size; have hi7 := upiF hi6 hb7; have hb47 : Below w4.heap.size w4 w7 := hb5.trans ((hb6.mono hs5).trans (hb7.mono (by omega))); have s0 := (hb47.cell (p := ⟨g + 1, 0, none⟩) hz4).trans K0; have s1 := (hb47.cell (p := ⟨g + 1, 1, none⟩) hz4).trans K1; have hz7 : g + 1 < w7.heap.size := (by omega)))
          go_quiet (fail)
          obtain ⟨w8, hw8⟩ : ∃ w8, w8 = w7.drewN nq := ⟨_, rfl⟩
          have hb48 : Below w4.heap.size w4 w8 := by rw [hw8]; exact below_drewN' hb47 _
          have hi8 : IntsAt w8 w8.heap.size A5 (listR k) := by rw [hw8]; exact hi7
          rw [← hw8]
          clear hw8 p0 p1 r0 r1 s0 s1 hb47 hA6 hA7 hi5 hi6 hi7 hs5 hs6 hs7 hb5 hb6 hb7
          have hs8 := hb48.size
          go_wp2_with fail
          go_loopw [142] (fun u wz => u = .int .i64 0 ∧ Below w8.heap.size w8 wz) (fun _ _ => 0)
          case atStart => exact ⟨rfl, Below.refl _ _⟩
          case round =>
            obtain ⟨rfl, hbz⟩ := hrel
            go_wp2_with fail
            go_roundw
            case rel => exact ⟨k + 1, hlt, by go_num, rfl, rfl, hbw.trans ((hb48.trans (hbz.mono hb48.size)).mono hsw)⟩
            case measure => simp [intOf]; omega
        · -- leaves
          simp at t1 t2 H40 hsum
          subst hsum
          go_wp2_with (first
            | (go_at_call 47; refine (H47.out _).mono ?_; rintro e w5 ⟨A5, c5, rfl, hi5, hb5⟩; have hs5 := hb5.size; have hA6 := waysUp hA5 hb5; have p0 := (hb5.cell (p := ⟨g, 0, none⟩) hz4').trans G0; have p1 := (hb5.cell (p := ⟨g, 1, none⟩) hz4').trans G1; have hz5 : g < w5.heap.size := (by omega))
            | (go_at_call 40; refine (H40.out _ c1 _ _ _ hA6 hi5).mono ?_; rintro e w6 ⟨rfl, hb6⟩; have hs6 := hb6.size; have hA7 := waysUp hA6 hb6; have hi6 := upiF hi5 hb6; have r0 := (hb6.cell (p := ⟨g, 0, none⟩) hz5).trans p0; have r1 := (hb6.cell (p := ⟨g, 1, none⟩) hz5).trans p1)
            | (go_at_call 46; refine (H46.out _ c1 _ hA7).mono ?_; rintro e w7 ⟨rfl, hb7⟩; have hs7 := hb7.size; have hi7 := upiF hi6 hb7; have hb47 : Below w4.heap.size w4 w7 := hb5.trans ((hb6.mono hs5).trans (hb7.mono (by omega))); have s0 := (hb47.cell (p := ⟨g + 1, 0, none⟩) hz4).trans K0; have s1 := (hb47.cell (p := ⟨g + 1, 1, none⟩) hz4).trans K1; have hz7 : g + 1 < w7.heap.size := (by omega)))
          go_quiet (fail)
          obtain ⟨w8, hw8⟩ : ∃ w8, w8 = w7.drewN nq := ⟨_, rfl⟩
          have hb48 : Below w4.heap.size w4 w8 := by rw [hw8]; exact below_drewN' hb47 _
          have hi8 : IntsAt w8 w8.heap.size A5 (listR k) := by rw [hw8]; exact hi7
          rw [← hw8]
          clear hw8 p0 p1 r0 r1 s0 s1 hb47 hA6 hA7 hi5 hi6 hi7 hs5 hs6 hs7 hb5 hb6 hb7
          have hs8 := hb48.size
          go_wp2_with fail
          go_loopw [142] (fun u wz => u = .int .i64 0 ∧ Below w8.heap.size w8 wz) (fun _ _ => 0)
          case atStart => exact ⟨rfl, Below.refl _ _⟩
          case round =>
            obtain ⟨rfl, hbz⟩ := hrel
            go_wp2_with fail
            go_roundw
            case rel => exact ⟨k + 1, hlt, by go_num, rfl, rfl, hbw.trans ((hb48.trans (hbz.mono hb48.size)).mono hsw)⟩
            case measure => simp [intOf]; omega
        · -- both
          simp at t1 t2 H40
          clear hsum
          go_wp2_with (first
            | (go_at_call 47; refine (H47.out _).mono ?_; rintro e w5 ⟨A5, c5, rfl, hi5, hb5⟩; have hs5 := hb5.size; have hA6 := waysUp hA5 hb5; have p0 := (hb5.cell (p := ⟨g, 0, none⟩) hz4').trans G0; have p1 := (hb5.cell (p := ⟨g, 1, none⟩) hz4').trans G1; have hz5 : g < w5.heap.size := (by omega))
            | (go_at_call 40; refine (H40.out _ c1 _ _ _ hA6 hi5).mono ?_; rintro e w6 ⟨rfl, hb6⟩; have hs6 := hb6.size; have hA7 := waysUp hA6 hb6; have hi6 := upiF hi5 hb6; have r0 := (hb6.cell (p := ⟨g, 0, none⟩) hz5).trans p0; have r1 := (hb6.cell (p := ⟨g, 1, none⟩) hz5).trans p1)
            | (go_at_call 46; refine (H46.out _ c1 _ hA7).mono ?_; rintro e w7 ⟨rfl, hb7⟩; have hs7 := hb7.size; have hi7 := upiF hi6 hb7; have hb47 : Below w4.heap.size w4 w7 := hb5.trans ((hb6.mono hs5).trans (hb7.mono (by omega))); have s0 := (hb47.cell (p := ⟨g + 1, 0, none⟩) hz4).trans K0; have s1 := (hb47.cell (p := ⟨g + 1, 1, none⟩) hz4).trans K1; have hz7 : g + 1 < w7.heap.size := (by omega)))
          go_quiet (fail)
          go_wp2_with fail
          go_roundw
          case rel => exact ⟨k + 1, hlt, by go_num, rfl, rfl, hbw.trans ((below_drewN' hb47 _).mono hsw)⟩
          case measure => simp [intOf]; omega
      · have hkN : k = N := by omega
        subst hkN
        have H42a := Lib.hid (fun A' c' W hW hT => HS42.out true A' c' W hW hT)
        have H42b := Lib.hid (fun A' c' W hW hT => HS42.out false A' c' W hW hT)
        clear HS42 HS40 HS46 HSUM HSB HBIT
        go_wp2_with (first
          | (go_at_call 42; (fail_if_success (have := mk)); refine (H42a.out _ c1 _ hA5 ht5).mono ?_; rintro e w5 ⟨A5, c5, rfl, hi5, hb5⟩; have hs5 := hb5.size; have hA6 := waysUp hA5 hb5; have ht6 := ht5.below hb5; have p0 := (hb5.cell (p := ⟨g, 0, none⟩) hz4').trans G0; have p1 := (hb5.cell (p := ⟨g, 1, none⟩) hz4').trans G1; have hz5 : g < w5.heap.size := (by omega); have mk := True.intro)
          | (go_at_call 42; refine (H42b.out _ c1 _ hA6 ht6).mono ?_; rintro e w6 ⟨A6, c6, rfl, hi6, hb6⟩; have hs6 := hb6.size; have ht7 := ht6.below hb6)
          | (go_at_call 16; refine (works_any _ ht7).mono ?_; rintro e w7 ⟨rfl, hb7⟩))
        go_ret
        exact ⟨rfl, hb03.trans ((hbw.trans ((hb5.mono hsw).trans ((hb6.mono (by omega)).trans (hb7.mono (by omega))))).mono hws3)⟩
end Go.Proofs.YtcebihijnedekaaDoor
