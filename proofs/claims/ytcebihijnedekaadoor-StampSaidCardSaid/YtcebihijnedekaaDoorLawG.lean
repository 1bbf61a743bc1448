/-
  The walk of the stage's theorem: either there is a flow, or some rooms prove that there is none: it answers true.
-/
import Derived.Test.YtcebihijnedekaaDoorOutB
import Derived.Test.YtcebihijnedekaaDoorHouseB
import Derived.Test.YtcebihijnedekaaDoorOutA
import Derived.Test.YtcebihijnedekaaDoorMathH
import Derived.Deep.RegionHeld3
import Derived.Lib.SliceRun
namespace Go.Proofs.YtcebihijnedekaaDoor
open Go.RowKit

/-- What the best rooms are in memory: none yet, or a list. -/
def BestV (q : Nat → Bool) (k : Nat) (w : World) (v : Value) : Prop :=
  (bestN q k = none ∧ v = .slice none 0 0) ∨ ∃ (L : List Int) (ad : Addr) (c : Nat), bestN q k = some L ∧ v = .slice (some ad) L.length c ∧ IntsAt w w.heap.size (some ad) L ∧ L.length ≤ 6

theorem BestV.up {q : Nat → Bool} {k : Nat} {w w' : World} {v : Value} (h : BestV q k w v) (hb : Below w.heap.size w w') (he : bestN q (k + 1) = bestN q k) : BestV q (k + 1) w' v := by
  rcases h with ⟨h1, h2⟩ | ⟨L, ad, c, h1, h2, h3, h4⟩
  · exact .inl ⟨by rw [he, h1], h2⟩
  · exact .inr ⟨L, ad, c, by rw [he, h1], h2, upiF h3 hb, h4⟩

theorem some_of_ints {w : World} {B : Nat} {A : Option Addr} {l : List Int} (h : IntsAt w B A l) (hl : 0 < l.length) : ∃ ad, A = some ad := by
  cases l with
  | nil => simp at hl
  | cons y t =>
    obtain ⟨b, off, e, _⟩ := h 0 y rfl
    exact ⟨_, e⟩

def RetIntsB (w0 : World) (l : List Int) (e : Ending) (w' : World) : Prop := ∃ A c, e = .returned (.slice A l.length c) ∧ IntsAt w' w'.heap.size A l ∧ Below w0.heap.size w0 w'

set_option maxRecDepth 100000 in
set_option maxHeartbeats 4000000 in
theorem lawHoffman_any (w : World) (q : Int) (A : Option Addr) (c : Nat) (hs : List H4) (hq : 0 ≤ q ∧ q ≤ 255) (hok : ∀ h ∈ hs, okH h) (hw : HouseAt w w.heap.size A hs) (ht : SizesAt w) :
    Calls Tryd.prog 8 #[.agg #[.int .u8 q, .slice A hs.length c]] w fun e w' => e = .returned (.bool true) ∧ Below w.heap.size w w' := by
  have hnil1 : ∀ W : World, (binOp .eql 25 (.slice none 0 0) (.slice none 0 0)).run Tryd.prog W = .ok (.bool true) W := fun W => run_eql_slice_nil W 25 3 none 0 0 Tryd.underlying25
  have hnil2 : ∀ (W : World) (ad : Addr) (n c : Nat), (binOp .eql 25 (.slice (some ad) n c) (.slice none 0 0)).run Tryd.prog W = .ok (.bool false) W := fun W ad n c => run_eql_slice_nil W 25 3 (some ad) n c Tryd.underlying25
  have hw1 := fun o => (hw.below ((Below.refl w.heap.size w).alloc (Nat.le_refl _) o) (Nat.le_refl _)).mono (B' := (w.alloc o).heap.size) (by simp)
  have ht1 := fun o => ht.alloc o
  have HM := Lib.hid (fun W hW => made_any q hq A c 5 hs W (by decide) hok hW)
  obtain ⟨rooms, hR, _, hr4, hch, hv, hsd, hwd⟩ := chk_made (r := q) (hs := hs) (most := 5) hok (by decide)
  rw [hR] at HM
  have hl5 := madeS_len q hs 5
  generalize madeS q hs 5 = ws at HM hch hv hsd hwd hl5
  have HF := Lib.hid (fun A' c' W hW => flows_any rooms A' c' ws W hv hsd hwd hl5 hW)
  have hN : (flowsS ws).length ≤ 1024 := Nat.le_trans (putS_len hwd ws.length []) (Nat.le_trans (Nat.pow_le_pow_right (by decide) hl5) (by decide))
  have hfa := flows_agr hv
  have hr6 := hv.r6
  have hp : 2 ^ rooms ≤ 64 := pow_le_64 hr6
  have hp1 : 1 ≤ 2 ^ rooms := Nat.one_le_two_pow
  have hsh := shl_val hr6
  have hr0 : (0 : Int) ≤ (rooms : Int) := by omega
  have hr1 : (rooms : Int) ≤ 6 := by omega
  have hbe := bestN_end hr6 hv.inW
  have HS46 := Lib.hid (fun (s : Nat) A' c' W (hs : s < 64) hW => sums_any rooms s ws.length (-1) A' c' ws W hv hs (fun j hj => by constructor <;> intro h <;> omega) hW)
  have HSQ := Lib.hid (fun (s : Nat) => sums_qH (ws := ws) s)
  have HPQ := Lib.hid (fun (s : Nat) (hs : s < 2 ^ rooms) => prv_list hr6 hs hch hv.inW)
  have HNE := Lib.hid (fun (s : Nat) (hs : s < 64) (hq : qH ws s = true) => listR_ne hs hq)
  have HS31 := Lib.hid (fun (s : Nat) A' c' D d W hW hD => proves_any rooms A' D c' d ws (listR s) W (by have := listRK_len s 6; show (listRK s 6).length ≤ 1000; omega) hW hD)
  have HC18 := Lib.hid (fun A' c' W hW hT => can_any rooms A' c' ws W hW hT)
  have HC20 := Lib.hid (fun A' c' W hW hT => first20_any rooms A' c' ws W hW hT)
  have HC29 := Lib.hid (fun A' c' W hW hT => against_any rooms A' c' ws W hW hT)
  unfold canS at HC18
  unfold frsS chkA at HC20
  unfold agaS at HC29
  simp only [hch, if_true, decide_true, Bool.true_and, show ((rooms : Int).toNat) = rooms from rfl] at HC18 HC20 HC29
  have HAG : Hid (agrS rooms ws = true → ∃ t, flowsS ws = firstS rooms ws :: t ∧ Flow ws (firstS rooms ws)) := Lib.hid (fun h => by
    have ha := (agrS_iff hv.inW).1 h
    obtain ⟨t, ht⟩ := flowsS_head hv ha
    exact ⟨t, ht, firstS_flow hv.inW hv.okW ha⟩)
  have HVF := Lib.hid (fun fl hF => ver_flow hv hch (fl := fl) hF)
  have HVER := Lib.hid (fun A' c' D d fl W hW hD => verify_any rooms A' D c' d ws fl W hW hD)
  generalize qH ws = qq at hbe HSQ HPQ HNE
  generalize firstS rooms ws = ff at HC20 HAG
  generalize listS rooms (fewS (qP rooms ws) rooms).1 = Lb at hbe HC29
  generalize agrS rooms ws = ag at hbe HC18 HC20 HC29 hfa HAG
  generalize flowsS ws = all at HF hN hfa HAG
  generalize 2 ^ rooms = N at hp hp1 hsh hbe HPQ
  have HBE := Lib.hid hbe
  have HFA := Lib.hid hfa
  have HP := Lib.hid hp
  clear hw ht hok hR hch hv hsd hwd hbe hfa
  go_enter Tryd.func8, Tryd.ntmps8
  go_wp2_with (first
    | (go_at_call 44; refine (HM.out _ (hw1 _)).mono ?_; rintro e w1 ⟨A1, c1, rfl, hA1, hb1⟩; have hs1 := hb1.size; simp only [World.size_alloc] at hs1; have ht2 := ((ht1 _).below hb1).below (bnew w1 (.cells #[.int .i64 rooms, .slice A1 ws.length c1] 24)); have hA1' := waysUp hA1 (bnew w1 (.cells #[.int .i64 rooms, .slice A1 ws.length c1] 24)))
    | (go_at_call 45; refine (HF.out A1 c1 _ hA1').mono ?_; rintro e w2 ⟨A2, c2, rfl, hL2, hb2⟩; have hs2 := hb2.size; simp only [World.size_alloc] at hs2; have ht3 := ht2.below hb2; have hA2 := waysUp hA1' hb2; have e0 : w2.cell? ⟨w1.heap.size, 0, none⟩ = some (.int .i64 rooms) := ((hb2.cell (p := ⟨w1.heap.size, 0, none⟩) (by simp)).trans (by simp [go_sem])); have e1 : w2.cell? ⟨w1.heap.size, 1, none⟩ = some (.slice A1 ws.length c1) := ((hb2.cell (p := ⟨w1.heap.size, 1, none⟩) (by simp)).trans (by simp [go_sem])); have hz1 : w1.heap.size < w2.heap.size := (by omega)))
  have hb02 : Below w.heap.size w w2 := ((Below.refl _ _).alloc (Nat.le_refl _) _).trans ((hb1.mono (by simp)).trans (((bnew w1 _).mono (by omega)).trans (hb2.mono (by simp; omega))))
  have hw2s : w.heap.size ≤ w2.heap.size := by omega
  clear hb1 hb2 hs1 hs2 hw1 ht1 ht2 hA1 hA1' HM HF
  generalize w1.heap.size = g at *
  go_loopw [5, 6, 7, 8] (fun b i _ _ wr => ∃ k : Nat, k ≤ N ∧ i = .int .i64 (k : Nat) ∧ BestV qq k wr b ∧ Below w2.heap.size w2 wr) (fun _ i _ _ _ => N - (intOf i).toNat)
  case atStart => exact ⟨0, Nat.zero_le _, rfl, .inl ⟨rfl, rfl⟩, Below.refl _ _⟩
  case round =>
    obtain ⟨k, hk, rfl, hBV, hbw⟩ := hrel
    obtain ⟨w3, rfl⟩ : ∃ w3, w3 = wr := ⟨_, rfl⟩
    have d0 := (hbw.cell (p := ⟨g, 0, none⟩) hz1).trans e0
    have d1 := (hbw.cell (p := ⟨g, 1, none⟩) hz1).trans e1
    have hsw := hbw.size
    have hzg : g < w3.heap.size := by omega
    have hA3 := waysUp hA2 hbw
    have ht4 := ht3.below hbw
    have HBV := Lib.hid hBV
    by_cases hlt : k < N
    · have hk64 : k < 64 := Nat.lt_of_lt_of_le hlt HP.out
      have hki : (k : Int) < (N : Int) := Int.ofNat_lt.2 hlt
      have hk0 : (0 : Int) ≤ (k : Int) := Int.natCast_nonneg k
      have H46 := Lib.hid (fun W hW => HS46.out k A1 c1 W hk64 hW)
      have hsq := HSQ.out k
      generalize sL (memR k) ws ws.length ws.length = a at H46 hsq
      generalize sM (memR k) ws ws.length ws.length = b at H46 hsq
      have hpq := HPQ.out k hlt
      have H31 := Lib.hid (fun D d W hW hD => HS31.out k A1 c1 D d W hW hD)
      generalize prvS rooms ws (listR k) = pv at H31 hpq
      have hne := HNE.out k hk64
      have hb1 : bestN qq (k + 1) = if qq k = true then (match bestN qq k with | none => some (listR k) | some L => if bef (listR k) L = true then some (listR k) else some L) else bestN qq k := rfl
      have HB1 := Lib.hid hb1
      have hll : (listR k).length ≤ 6 := listRK_len k 6
      have H47 := Lib.hid (fun W => rooms47_any k W hk64)
      clear HS46 HSQ HPQ HNE HS31 hb1 hBV e0 e1 HC18 HC20 HC29 HAG HVF HVER HBE HFA
      go_wp2_with (go_at_call 46; refine (H46.out _ hA3).mono ?_; rintro e w5 ⟨rfl, hb5⟩; have hs5 := hb5.size; have x0 := (hb5.cell (p := ⟨g, 0, none⟩) hzg).trans d0; have x1 := (hb5.cell (p := ⟨g, 1, none⟩) hzg).trans d1; have hA5 := waysUp hA3 hb5)
      have hzg5 : g < w5.heap.size := by omega
      have HKK := Lib.hid (fun w' (h : Below w5.heap.size w5 w') => (⟨h, (h.cell (p := ⟨g, 0, none⟩) hzg5).trans x0, (h.cell (p := ⟨g, 1, none⟩) hzg5).trans x1⟩ : Below w5.heap.size w5 w' ∧ w'.cell? ⟨g, 0, none⟩ = some (.int .i64 rooms) ∧ w'.cell? ⟨g, 1, none⟩ = some (.slice A1 ws.length c1)))
      have K47 : Hid (∀ W, Below w5.heap.size w5 W → Calls Tryd.prog 47 #[.int .i64 (k : Nat)] W (RetIntsB w5 (listR k))) := Lib.hid (fun W h => (H47.out W).mono fun e w' ⟨A', c', he, hi, hb⟩ => ⟨A', c', he, hi, h.trans (hb.mono h.size)⟩)
      have K31 : Hid (∀ D d W, Below w5.heap.size w5 W → IntsAt W W.heap.size D (listR k) → Calls Tryd.prog 31 #[.agg #[.int .i64 rooms, .slice A1 ws.length c1], .slice D (listR k).length d] W fun e w' => e = .returned (.int .i64 pv) ∧ Below w5.heap.size w5 w') := Lib.hid (fun D d W h hi => (H31.out D d W (waysUp hA5 h) hi).mono fun e w' ⟨he, hb⟩ => ⟨he, h.trans (hb.mono h.size)⟩)
      have HX := Lib.hid hA5
      clear H31 H46 hA5
      have hbd := (Below.refl w5.heap.size w5).drew
      cases hqk : qq k
      · rw [hqk] at hsq hpq
        have hab : ¬ b < a := by simpa using hsq
        have hpv : ¬ pv = 0 := by simpa using hpq
        have HB2 := Lib.hid (show bestN qq (k + 1) = bestN qq k by rw [HB1.out, hqk]; rfl)
        clear hsq hpq hqk HB1 hne
        go_region_held3 (fun w' => Below w5.heap.size w5 w' ∧ w'.cell? ⟨g, 0, none⟩ = some (.int .i64 rooms) ∧ w'.cell? ⟨g, 1, none⟩ = some (.slice A1 ws.length c1))
          (exact HKK.out _ (by assumption))
          (first
            | (go_at_call 47; refine (K47.out _ (by assumption)).mono ?_; rintro e w6 ⟨A6, c6, rfl, hi6, hb6⟩)
            | (go_at_call 31; refine (K31.out _ _ _ (by assumption) (by assumption)).mono ?_; rintro e w7 ⟨rfl, hb7⟩))
        all_goals
          have hb37 : Below w3.heap.size w3 w7 := hb5.trans (hb7.mono hs5)
          go_wp2_with fail
          go_roundw
          case rel => exact ⟨k + 1, hlt, by go_num, HBV.out.up hb37 HB2.out, hbw.trans (hb37.mono hsw)⟩
          case measure => simp [intOf]; omega
      · rw [hqk] at hsq hpq
        have hab : b < a := by simpa using hsq
        have hpv : pv = 0 := by simpa using hpq
        have hne := hne hqk
        subst hpv
        rcases HBV.out with ⟨hn, rfl⟩ | ⟨L, ad, cL, hn, rfl, hiL, hlL⟩
        · have HB2 := Lib.hid (show bestN qq (k + 1) = some (listR k) by rw [HB1.out, if_pos hqk, hn])
          clear hsq hpq hqk HB1 hn HBV
          go_region_held3 (fun w' => Below w5.heap.size w5 w' ∧ w'.cell? ⟨g, 0, none⟩ = some (.int .i64 rooms) ∧ w'.cell? ⟨g, 1, none⟩ = some (.slice A1 ws.length c1))
          (exact HKK.out _ (by assumption))
          (first
            | (go_at_call 47; refine (K47.out _ (by assumption)).mono ?_; rintro e w6 ⟨A6, c6, rfl, hi6, hb6⟩)
            | (go_at_call 31; refine (K31.out _ _ _ (by assumption) (by assumption)).mono ?_; rintro e w7 ⟨rfl, hb7⟩))
          all_goals
            go_wp2_with (first
              | (go_at_call 47; refine (K47.out _ hb7).mono ?_; rintro e w8 ⟨A8, c8, rfl, hi8, hb8⟩))
            obtain ⟨ad8, rfl⟩ := some_of_ints hi8 hne
            have hb38 : Below w3.heap.size w3 w8 := hb5.trans (hb8.mono hs5)
            go_wp2_with fail
            go_roundw
            case rel => exact ⟨k + 1, hlt, by go_num, .inr ⟨listR k, ad8, c8, HB2.out, rfl, hi8, hll⟩, hbw.trans (hb38.mono hsw)⟩
            case measure => simp [intOf]; omega
        · have H48 := Lib.hid (fun W A' c' hA hD => better_any A' (some ad) c' cL (listR k) L W (by omega) hA hD)
          have HLL := Lib.hid hiL
          cases hbf : bef (listR k) L
          · have HB2 := Lib.hid (show bestN qq (k + 1) = some L by rw [HB1.out, if_pos hqk, hn]; dsimp only; rw [hbf]; rfl)
            rw [hbf] at H48
            clear hsq hpq hqk HB1 hn HBV hbf hiL
            go_region_held3 (fun w' => Below w5.heap.size w5 w' ∧ w'.cell? ⟨g, 0, none⟩ = some (.int .i64 rooms) ∧ w'.cell? ⟨g, 1, none⟩ = some (.slice A1 ws.length c1))
          (exact HKK.out _ (by assumption))
          (first
            | (go_at_call 47; refine (K47.out _ (by assumption)).mono ?_; rintro e w6 ⟨A6, c6, rfl, hi6, hb6⟩)
            | (go_at_call 31; refine (K31.out _ _ _ (by assumption) (by assumption)).mono ?_; rintro e w7 ⟨rfl, hb7⟩))
            all_goals
              go_wp2_with (first
                | (go_at_call 47; refine (K47.out _ hb7).mono ?_; rintro e w8 ⟨A8, c8, rfl, hi8, hb8⟩; have hb38 : Below w3.heap.size w3 w8 := hb5.trans (hb8.mono hs5); have hiL8 := upiF HLL.out hb38)
                | (go_at_call 48; refine (H48.out _ _ _ hi8 hiL8).mono ?_; rintro e w9 ⟨rfl, hb9⟩))
              have hb39 : Below w3.heap.size w3 w9 := hb38.trans (hb9.mono hb38.size)
              go_roundw
              case rel => exact ⟨k + 1, hlt, by go_num, .inr ⟨L, ad, cL, HB2.out, rfl, upiF HLL.out hb39, hlL⟩, hbw.trans (hb39.mono hsw)⟩
              case measure => simp [intOf]; omega
          · have HB2 := Lib.hid (show bestN qq (k + 1) = some (listR k) by rw [HB1.out, if_pos hqk, hn]; dsimp only; rw [hbf]; rfl)
            rw [hbf] at H48
            clear hsq hpq hqk HB1 hn HBV hbf hiL
            go_region_held3 (fun w' => Below w5.heap.size w5 w' ∧ w'.cell? ⟨g, 0, none⟩ = some (.int .i64 rooms) ∧ w'.cell? ⟨g, 1, none⟩ = some (.slice A1 ws.length c1))
          (exact HKK.out _ (by assumption))
          (first
            | (go_at_call 47; refine (K47.out _ (by assumption)).mono ?_; rintro e w6 ⟨A6, c6, rfl, hi6, hb6⟩)
            | (go_at_call 31; refine (K31.out _ _ _ (by assumption) (by assumption)).mono ?_; rintro e w7 ⟨rfl, hb7⟩))
            all_goals
              go_wp2_with (first
                | (go_at_call 48; refine (H48.out _ _ _ hi8 hiL8).mono ?_; rintro e w9 ⟨rfl, hb9⟩; have hb59 : Below w5.heap.size w5 w9 := hb8.trans (hb9.mono hb8.size); have mk := True.intro)
                | (go_at_call 47; (fail_if_success (have := mk)); refine (K47.out _ hb7).mono ?_; rintro e w8 ⟨A8, c8, rfl, hi8, hb8⟩; have hb38 : Below w3.heap.size w3 w8 := hb5.trans (hb8.mono hs5); have hiL8 := upiF HLL.out hb38)
                | (go_at_call 47; refine (K47.out _ hb59).mono ?_; rintro e w10 ⟨A10, c10, rfl, hi10, hb10⟩))
              obtain ⟨ad8, rfl⟩ := some_of_ints hi10 hne
              have hb310 : Below w3.heap.size w3 w10 := hb5.trans (hb10.mono hs5)
              go_wp2_with fail
              go_roundw
              case rel => exact ⟨k + 1, hlt, by go_num, .inr ⟨listR k, ad8, c10, HB2.out, rfl, hi10, hll⟩, hbw.trans (hb310.mono hsw)⟩
              case measure => simp [intOf]; omega
    · have hkN : k = N := by omega
      subst hkN
      have hA3b := hA3
      have hL3 := hL2.up hbw
      have HX3 := Lib.hid hb02
      clear e0 e1 HS46 HSQ HPQ HNE HS31 hBV hA2 hL2 ht3
      rcases ag with _ | _
      · rcases HBV.out with ⟨hn, _⟩ | ⟨L, ad, cL, hn, rfl, hiL, hlL⟩
        · rw [HBE.out] at hn; cases hn
        have hLL : L = Lb := by rw [HBE.out] at hn; simpa using hn.symm
        subst hLL
        have hall : all.length = 0 := by have := HFA.out; simpa using this.symm
        have HC20b := Lib.hid (fun A' c' W hW hT => (show Calls Tryd.prog 20 #[.agg #[.int .i64 rooms, .slice A' ws.length c']] W (RetList W [] 12) from HC20.out A' c' W hW hT))
        have HC29b := Lib.hid (fun A' c' W hW hT => (show Calls Tryd.prog 29 #[.agg #[.int .i64 rooms, .slice A' ws.length c']] W (RetList W L 0) from HC29.out A' c' W hW hT))
        have HLL := Lib.hid hiL
        have hall0 : (all.length : Int) = 0 := by omega
        clear HC20 HC29 HAG HVF HVER HBE HFA HBV hn hiL hL3
        go_wp2_with (first
          | (go_at_call 18; refine (HC18.out A1 c1 _ hA3 ht4).mono ?_; rintro e w5 ⟨rfl, hb5⟩; have hA5 := waysUp hA3 hb5; have ht5 := ht4.below hb5; have x0 := (hb5.cell (p := ⟨g, 0, none⟩) hzg).trans d0; have x1 := (hb5.cell (p := ⟨g, 1, none⟩) hzg).trans d1; have hs5 := hb5.size; have hz5 : g < w5.heap.size := (by omega))
          | (go_at_call 20; refine (HC20b.out A1 c1 _ hA5 ht5).mono ?_; rintro e w6 ⟨A6, c6, rfl, hi6, hb6⟩; have hA6 := waysUp hA5 hb6; have ht6 := ht5.below hb6; have y0 := (hb6.cell (p := ⟨g, 0, none⟩) hz5).trans x0; have y1 := (hb6.cell (p := ⟨g, 1, none⟩) hz5).trans x1; have hs6 := hb6.size; have hz6 : g < w6.heap.size := (by omega))
          | (go_at_call 29; refine (HC29b.out A1 c1 _ hA6 ht6).mono ?_; rintro e w7 ⟨A7, c7, rfl, hi7, hb7⟩; have hs7 := hb7.size; have ht7 := ht6.below hb7; have hi8 := upiF HLL.out (hb5.trans ((hb6.mono hs5).trans (hb7.mono (by omega)))))
          | (go_at_call 22; refine (sameO (by omega) hi7 hi8).mono ?_; rintro e w8 ⟨rfl, hb8⟩; have ht8 := ht7.below hb8; have hs8 := hb8.size)
          | (go_at_call 16; refine (works_any _ ht8).mono ?_; rintro e w9 ⟨rfl, hb9⟩))
        go_ret
        exact ⟨rfl, HX3.out.trans ((hbw.trans ((hb5.mono hsw).trans ((hb6.mono (by omega)).trans ((hb7.mono (by omega)).trans ((hb8.mono (by omega)).trans (hb9.mono (by omega))))))).mono hw2s)⟩
      · rcases HBV.out with ⟨hn, rfl⟩ | ⟨L, ad, cL, hn, _⟩
        rotate_left
        · rw [HBE.out] at hn; cases hn
        obtain ⟨t, hat, hff⟩ := HAG.out rfl
        have hver := HVF.out ff hff
        have hl12 : ff.length ≤ 5 := by rw [hff.1.1]; exact hl5
        have HC20b := Lib.hid (fun A' c' W hW hT => (show Calls Tryd.prog 20 #[.agg #[.int .i64 rooms, .slice A' ws.length c']] W (RetList W ff 0) from HC20.out A' c' W hW hT))
        have HC29b := Lib.hid (fun A' c' W hW hT => (show Calls Tryd.prog 29 #[.agg #[.int .i64 rooms, .slice A' ws.length c']] W (RetList W [] 13) from HC29.out A' c' W hW hT))
        have HV := Lib.hid (fun A' c' D d W hW hD => HVER.out A' c' D d ff W hW hD)
        rw [hver] at HV
        have hx0 : all[0]? = some ff := by rw [hat]; rfl
        have hallp : (0 : Int) < (all.length : Int) := by rw [hat]; simp
        have hallp2 : ((all.length : Nat) : Int) > 0 := hallp
        obtain ⟨b3, o3, A8, c8, rfl, hbz, hcl, hil, _⟩ := hL3 0 ff hx0
        rw [Nat.add_zero] at hcl
        have HIL := Lib.hid hil
        clear HC20 HC29 HAG HVF HVER HBE HFA HBV hn hff hver hx0 hL3 hil hat
        go_wp2_with (first
          | (go_at_call 18; refine (HC18.out A1 c1 _ hA3 ht4).mono ?_; rintro e w5 ⟨rfl, hb5⟩; have hA5 := waysUp hA3 hb5; have ht5 := ht4.below hb5; have x0 := (hb5.cell (p := ⟨g, 0, none⟩) hzg).trans d0; have x1 := (hb5.cell (p := ⟨g, 1, none⟩) hzg).trans d1; have hs5 := hb5.size; have hz5 : g < w5.heap.size := (by omega))
          | (go_at_call 20; refine (HC20b.out A1 c1 _ hA5 ht5).mono ?_; rintro e w6 ⟨A6, c6, rfl, hi6, hb6⟩; have hA6 := waysUp hA5 hb6; have ht6 := ht5.below hb6; have y0 := (hb6.cell (p := ⟨g, 0, none⟩) hz5).trans x0; have y1 := (hb6.cell (p := ⟨g, 1, none⟩) hz5).trans x1; have hs6 := hb6.size; have hz6 : g < w6.heap.size := (by omega))
          | (go_at_call 29; refine (HC29b.out A1 c1 _ hA6 ht6).mono ?_; rintro e w7 ⟨A7, c7, rfl, hi7, hb7⟩; have hs7 := hb7.size; have ht7 := ht6.below hb7; have hA7 := waysUp hA6 hb7; have hi6' := upiF hi6 hb7; have z0 := (hb7.cell (p := ⟨g, 0, none⟩) hz6).trans y0; have z1 := (hb7.cell (p := ⟨g, 1, none⟩) hz6).trans y1; have hb37 : Below w3.heap.size w3 w7 := hb5.trans ((hb6.mono hs5).trans (hb7.mono (by omega))); have hi8 := upiF HIL.out hb37; have hcl7 := (hb37.cell (p := ⟨b3, _, none⟩) hbz).trans hcl; have hbz7 : b3 < w7.heap.size := (by omega); have hz7 : g < w7.heap.size := (by omega))
          | (go_at_call 22; refine (sameO (by omega) hi6' hi8).mono ?_; rintro e w8 ⟨rfl, hb8⟩; have ht8 := ht7.below hb8; have hs8 := hb8.size; have hA8 := waysUp hA7 hb8; have hi9 := upiF hi6' hb8; have u0 := (hb8.cell (p := ⟨g, 0, none⟩) hz7).trans z0; have u1 := (hb8.cell (p := ⟨g, 1, none⟩) hz7).trans z1)
          | (go_at_call 25; refine (HV.out _ _ _ _ _ hA8 hi9).mono ?_; rintro e w9 ⟨rfl, hb9⟩; have ht9 := ht8.below hb9; have hs9 := hb9.size)
          | (go_at_call 16; refine (works_any _ ht9).mono ?_; rintro e w10 ⟨rfl, hb10⟩))
        go_ret
        exact ⟨rfl, HX3.out.trans ((hbw.trans ((hb37.mono hsw).trans ((hb8.mono (by omega)).trans ((hb9.mono (by omega)).trans (hb10.mono (by omega)))))).mono hw2s)⟩
end Go.Proofs.YtcebihijnedekaaDoor
