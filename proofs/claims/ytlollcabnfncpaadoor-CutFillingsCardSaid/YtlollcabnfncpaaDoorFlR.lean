/-
  The reference: cuts and rounds of a checked filling. The walk of CutFillings.
-/
import Derived.Test.YtlollcabnfncpaaDoorVerR
import Derived.Test.YtlollcabnfncpaaDoorRndA
import Derived.Test.YtlollcabnfncpaaDoorRefE
import Derived.Test.YtlollcabnfncpaaDoorWorks
namespace Go.Proofs.YtlollcabnfncpaaDoor
open Go.RowKit

/-- Cards of the reference, with their capacity. -/
def RetRcdC (w : World) (l : List Cd) (e : Ending) (w' : World) : Prop := ∃ A c, e = .returned (.slice A l.length c) ∧ l.length ≤ c ∧ RcdsAt w' w'.heap.size A l ∧ Below w.heap.size w w' ∧ ∀ ad, A = some ad → w.heap.size ≤ ad.block
theorem own_cap {w : World} {base n m c : Nat} {e : TypeId} {size : Nat} {A : Option Addr} {xs : List Value} (h : w.ownsRow base e size (.slice A m c) n xs) : n ≤ c := by
  rcases h.2 with ⟨h1, h2⟩ | ⟨g, cap, cur, h1, _, _, h4, _⟩
  · omega
  · injection h1 with _ _ h5
    omega
set_option maxRecDepth 100000 in
set_option maxHeartbeats 2000000 in
theorem given_cap (A : Option Addr) (c : Nat) (L : List Cd) (w : World) (hA : CardsAt w w.heap.size A L) (hn : L.length < 1000000) :
    Calls Tryd.prog 27 #[.slice A L.length c] w (RetRcdC w L) := by
  go_enter Tryd.func27, Tryd.ntmps27
  go_wp2
  go_loopw [3, 4] (fun v i wr => ∃ k : Nat, k ≤ L.length ∧ i = .int .i64 k ∧ wr.ownsRow w.heap.size 99 3 v k (rcdcells (L.take k)) ∧ Below w.heap.size w wr) (fun _ i _ => L.length - (intOf i).toNat)
  case atStart => exact ⟨0, by omega, rfl, World.ownsRow_nil _ _ _ _, Below.refl _ _⟩
  case round =>
    obtain ⟨k, hk, rfl, hown, hbr⟩ := hrel
    have hzr := hbr.size
    by_cases hlt : k < L.length
    · have hx : L[k]? = some L[k] := List.getElem?_eq_getElem hlt
      generalize L[k] = x at hx
      have HT := Lib.hid (take_snoc hx)
      obtain ⟨b, off, rfl, hb, d0, d1, d2⟩ := hA k x hx
      replace d0 := (hbr.cell (p := ⟨b, _, none⟩) (by simp; omega)).trans d0
      replace d1 := (hbr.cell (p := ⟨b, _, none⟩) (by simp; omega)).trans d1
      replace d2 := (hbr.cell (p := ⟨b, _, none⟩) (by simp; omega)).trans d2
      have hbz : b < wr.heap.size := by omega
      clear hx
      go_wp2_with (at_builtin; refine wpList_append_rcd _ rfl _ _ rfl w.heap.size k wr.heap.size _ _ x rfl (hown.alloc _) rfl (heap_at _ _ _ rfl) (by omega) (by simp; omega) ?_; intro A5 c5 w5 hown5 hgr5 _)
      go_roundw
      case rel => exact ⟨k + 1, by omega, by go_num, by rw [HT.out]; exact hown5, (hbr.alloc hzr _).grown hgr5 (by simp; omega) (fun g hg => (hown.lt g hg).1)⟩
      case measure => simp [intOf]; omega
    · have e : L.take k = L := List.take_of_length_le (by omega)
      rw [e] at hown
      obtain ⟨A', c', rfl, hA', hkl⟩ := own_rcds hown
      have hcap := own_cap hown
      have HR := Lib.hid (show RetRcdC w L (.returned (.slice A' L.length c')) wr from ⟨A', c', rfl, by omega, hA', hbr, fun ad h => own_block_ge hown ad h⟩)
      clear hown hA' e hcap
      go_wp2
      go_ret
      exact HR.out

/-- The reference's rounds are those of the blocks. -/
theorem rnd_div {s : Sh} (hs : s.Ok) {x : List Cd} (h : verS s x = 0) : rndS s 41 x = valD (divS s x) ∧ 1 ≤ x.length ∧ x.length ≤ 36 := by
  have h1 := verM_len hs x 0 (-1) (by omega) (by omega) h
  have h2 := (part_all hs h).ne
  refine ⟨?_, h2, by omega⟩
  rw [rnd_dep s 41 x h2 (by omega), dep_all hs h (by omega)]

set_option maxRecDepth 100000 in
set_option maxHeartbeats 4000000 in
theorem rcutsF_any (r c l v : Int) (A : Option Addr) (cap : Nat) (x : List Cd) (w : World) (hA : RcdsAt w w.heap.size A x) (hn : x.length < 1000000) (hcap : x.length ≤ cap) :
    Calls Tryd.prog 29 #[.agg #[.int .i64 r, .int .i64 c, .int .i64 l, .int .i64 v], .slice A x.length cap] w (RetCut3 w (cutsF r c l v x).1 (cutsF r c l v x).2 (verF r c l v x)) := by
  have HV := Lib.hid (fun W (h : Below w.heap.size w W) => rverify_any r c l v A cap x W (hA.up h) hn hcap)
  by_cases h0 : verF r c l v x = 0
  · have e : cutsF r c l v x = (cutsR ⟨r.toNat, c.toNat, l.toNat, v.toNat⟩ x, cutsC ⟨r.toNat, c.toNat, l.toNat, v.toNat⟩ x) := by unfold cutsF; rw [if_pos h0]
    rw [h0] at HV
    rw [e, h0]
    obtain ⟨s, hs, rfl, rfl, rfl, rfl, hv⟩ := ver_ok h0
    show Calls Tryd.prog 29 _ w (RetCut3 w (cutsR s x) (cutsC s x) 0)
    rw [← cutB_rows hs, ← cutB_cols hs]
    have hf := verM_fits x 0 (-1) hv
    have HA := Lib.hid hA
    have HC := Lib.hid (fun (ac : Bool) (W : World) (h : Below w.heap.size w W) => rcuts_any s A cap x ac W hs (HA.out.up h) hf hn)
    clear hv hA h0 e hf
    have HC1 := Lib.hid (fun W h => HC.out true W h)
    have HC2 := Lib.hid (fun W h => HC.out false W h)
    go_enter Tryd.func29, Tryd.ntmps29
    go_upto_region 4 with (go_at_call 36; refine (HV.out _ (below_new _ _)).mono ?_; rintro e w1 ⟨rfl, hb1⟩)
    have hbb := below_via hb1
    have q0 : w1.cell? ⟨w.heap.size, 0, none⟩ = some (.int .i64 s.r) := (hb1.cell (p := ⟨w.heap.size, 0, none⟩) (by simp)).trans (by simp [go_sem])
    have q1 : w1.cell? ⟨w.heap.size, 1, none⟩ = some (.int .i64 s.c) := (hb1.cell (p := ⟨w.heap.size, 1, none⟩) (by simp)).trans (by simp [go_sem])
    have q2 : w1.cell? ⟨w.heap.size, 2, none⟩ = some (.int .i64 s.l) := (hb1.cell (p := ⟨w.heap.size, 2, none⟩) (by simp)).trans (by simp [go_sem])
    have q3 : w1.cell? ⟨w.heap.size, 3, none⟩ = some (.int .i64 s.w) := (hb1.cell (p := ⟨w.heap.size, 3, none⟩) (by simp)).trans (by simp [go_sem])
    have hzw := lt_of_cell q0
    have HK := Lib.hid (fun (W : World) (h : Below w1.heap.size w1 W) => show W.cell? ⟨w.heap.size, 0, none⟩ = some (.int .i64 s.r) ∧ W.cell? ⟨w.heap.size, 1, none⟩ = some (.int .i64 s.c) ∧ W.cell? ⟨w.heap.size, 2, none⟩ = some (.int .i64 s.l) ∧ W.cell? ⟨w.heap.size, 3, none⟩ = some (.int .i64 s.w) from
      ⟨(h.cell (p := ⟨w.heap.size, 0, none⟩) hzw).trans q0, (h.cell (p := ⟨w.heap.size, 1, none⟩) hzw).trans q1, (h.cell (p := ⟨w.heap.size, 2, none⟩) hzw).trans q2, (h.cell (p := ⟨w.heap.size, 3, none⟩) hzw).trans q3⟩)
    have HBB := Lib.hid hbb
    have hc1 := fun W h => HC1.out W h
    have hc2 := fun W h => HC2.out W h
    unfold RetInts at hc1 hc2
    have HG6 := Lib.hid (fun W (Q : Ending → World → Prop) (h : Below w1.heap.size w1 W) (hQ : ∀ B d w', IntsAt w' w'.heap.size B (cutB s true x) → Below w1.heap.size w1 w' → Q (.returned (.slice B (cutB s true x).length d)) w') =>
      (hc1 W (HBB.out.trans (h.mono HBB.out.size))).mono fun e w' ⟨B, d, he, hi, hb⟩ => he ▸ hQ B d w' hi (h.trans (hb.mono h.size)))
    have HG7 := Lib.hid (fun W (Q : Ending → World → Prop) (h : Below w1.heap.size w1 W) (hQ : ∀ B d w', IntsAt w' w'.heap.size B (cutB s false x) → Below w1.heap.size w1 w' → Below W.heap.size W w' → Q (.returned (.slice B (cutB s false x).length d)) w') =>
      (hc2 W (HBB.out.trans (h.mono HBB.out.size))).mono fun e w' ⟨B, d, he, hi, hb⟩ => he ▸ hQ B d w' hi (h.trans (hb.mono h.size)) hb)
    have hbd : Below w1.heap.size w1 w1.drew := (Below.refl _ _).drew
    clear hc1 hc2 hb1 hbb q0 q1 q2 q3
    generalize cutB s true x = P1 at *
    generalize cutB s false x = P2 at *
    go_region_held3 (fun W => W.cell? ⟨w.heap.size, 0, none⟩ = some (.int .i64 s.r) ∧ W.cell? ⟨w.heap.size, 1, none⟩ = some (.int .i64 s.c) ∧ W.cell? ⟨w.heap.size, 2, none⟩ = some (.int .i64 s.l) ∧ W.cell? ⟨w.heap.size, 3, none⟩ = some (.int .i64 s.w))
      (exact HK.out _ (by assumption))
      (first
        | (go_at_call 76; with_reducible refine HG6.out _ _ (by assumption) ?_; intro A8 c8 w8 hA8 hb8)
        | (go_at_call 76; with_reducible refine HG7.out _ _ (by assumption) ?_; intro A9 c9 w9 hA9 hb9 hB9))
    go_wp2
    go_ret3
    exact ⟨A8, c8, A9, c9, rfl, hA8.up hB9, hA9, HBB.out.trans (hb9.mono HBB.out.size)⟩
  · have e : cutsF r c l v x = ([], []) := by unfold cutsF; rw [if_neg h0]
    rw [e]
    have hz : (verF r c l v x == 0) = false := by simpa using h0
    clear hA h0 e
    generalize verF r c l v x = z at *
    go_enter Tryd.func29, Tryd.ntmps29
    go_wp2_with (go_at_call 36; refine (HV.out _ (below_new _ _)).mono ?_; rintro e w1 ⟨rfl, hb1⟩)
    go_ret3
    exact ⟨none, 0, none, 0, rfl, IntsAt.nil _ _ _, IntsAt.nil _ _ _, below_via hb1⟩

set_option maxRecDepth 100000 in
set_option maxHeartbeats 2000000 in
theorem rstraightF_any (r c l v : Int) (A : Option Addr) (cap : Nat) (x : List Cd) (w : World) (hA : RcdsAt w w.heap.size A x) (hn : x.length < 1000000) (hcap : x.length ≤ cap) :
    Calls Tryd.prog 31 #[.agg #[.int .i64 r, .int .i64 c, .int .i64 l, .int .i64 v], .slice A x.length cap] w fun e w' => e = .returned (.tuple #[.bool (strF r c l v x), .int .i64 (verF r c l v x)]) ∧ Below w.heap.size w w' := by
  have HV := Lib.hid (fun W (h : Below w.heap.size w W) => rverify_any r c l v A cap x W (hA.up h) hn hcap)
  by_cases h0 : verF r c l v x = 0
  · have e : strF r c l v x = (divS ⟨r.toNat, c.toNat, l.toNat, v.toNat⟩ x).st := by unfold strF; rw [if_pos h0]
    rw [h0] at HV
    rw [e, h0]
    obtain ⟨s, hs, rfl, rfl, rfl, rfl, hv⟩ := ver_ok h0
    obtain ⟨k1, k2, k3⟩ := rnd_div hs hv
    have hf := verM_fits x 0 (-1) hv
    have HD := Lib.hid (fun W (h : Below w.heap.size w W) => rnds_any s hs 41 (by omega) A cap x W (hA.up h) hf k2 (by omega))
    rw [k1] at HD
    clear hv hA h0 e k1 k2 k3 hf
    show Calls Tryd.prog 31 _ w fun e w' => e = .returned (.tuple #[.bool (divS s x).st, .int .i64 0]) ∧ Below w.heap.size w w'
    generalize divS s x = E at *
    obtain ⟨st, n⟩ := E
    unfold valD at HD
    dsimp only at HD ⊢
    have hn0 : (0 : Int) ≤ (n : Int) := by omega
    rcases st with _ | _
    all_goals
      simp only [Bool.false_eq_true, if_false, if_true] at HD
      go_enter Tryd.func31, Tryd.ntmps31
      go_wp2_with (first
        | (go_at_call 36; refine (HV.out _ (below_new _ _)).mono ?_; rintro e w1 ⟨rfl, hb1⟩; obtain ⟨q1, q2, q3⟩ := bcell hb1; simp only [World.size_alloc] at q1 q2 q3; have hbb := below_via hb1)
        | (go_at_call 78; refine (HD.out _ hbb).mono ?_; rintro e w2 ⟨rfl, hb2⟩))
      go_ret2
      exact ⟨rfl, below_then hbb hb2⟩
  · have e : strF r c l v x = false := by unfold strF; rw [if_neg h0]
    rw [e]
    have hz : (verF r c l v x == 0) = false := by simpa using h0
    clear hA h0 e
    generalize verF r c l v x = z at *
    go_enter Tryd.func31, Tryd.ntmps31
    go_wp2_with (go_at_call 36; refine (HV.out _ (below_new _ _)).mono ?_; rintro e w1 ⟨rfl, hb1⟩)
    go_ret2
    exact ⟨rfl, below_via hb1⟩

set_option maxRecDepth 100000 in
set_option maxHeartbeats 2000000 in
theorem rroundsF_any (r c l v : Int) (A : Option Addr) (cap : Nat) (x : List Cd) (w : World) (hA : RcdsAt w w.heap.size A x) (hn : x.length < 1000000) (hcap : x.length ≤ cap) :
    Calls Tryd.prog 33 #[.agg #[.int .i64 r, .int .i64 c, .int .i64 l, .int .i64 v], .slice A x.length cap] w fun e w' => e = .returned (.tuple #[.int .i64 (rouF r c l v x), .int .i64 (rouE r c l v x)]) ∧ Below w.heap.size w w' := by
  have HV := Lib.hid (fun W (h : Below w.heap.size w W) => rverify_any r c l v A cap x W (hA.up h) hn hcap)
  by_cases h0 : verF r c l v x = 0
  · have e : rouF r c l v x = if (divS ⟨r.toNat, c.toNat, l.toNat, v.toNat⟩ x).st = true then (((divS ⟨r.toNat, c.toNat, l.toNat, v.toNat⟩ x).n : Nat) : Int) else 0 := by unfold rouF; rw [if_pos h0]
    have e' : rouE r c l v x = if (divS ⟨r.toNat, c.toNat, l.toNat, v.toNat⟩ x).st = true then 0 else 12 := by unfold rouE; rw [if_pos h0]
    rw [h0] at HV
    rw [e, e']
    obtain ⟨s, hs, rfl, rfl, rfl, rfl, hv⟩ := ver_ok h0
    obtain ⟨k1, k2, k3⟩ := rnd_div hs hv
    have hf := verM_fits x 0 (-1) hv
    have HD := Lib.hid (fun W (h : Below w.heap.size w W) => rnds_any s hs 41 (by omega) A cap x W (hA.up h) hf k2 (by omega))
    rw [k1] at HD
    clear hv hA h0 e e' k1 k2 k3 hf
    show Calls Tryd.prog 33 _ w fun e w' => e = .returned (.tuple #[.int .i64 (if (divS s x).st = true then (((divS s x).n : Nat) : Int) else 0), .int .i64 (if (divS s x).st = true then 0 else 12)]) ∧ Below w.heap.size w w'
    generalize divS s x = E at *
    obtain ⟨st, n⟩ := E
    unfold valD at HD
    dsimp only at HD ⊢
    have hn0 : ¬ (n : Int) < 0 := by omega
    rcases st with _ | _
    all_goals
      simp only [Bool.false_eq_true, if_false, if_true] at HD
      go_enter Tryd.func33, Tryd.ntmps33
      go_wp2_with (first
        | (go_at_call 36; refine (HV.out _ (below_new _ _)).mono ?_; rintro e w1 ⟨rfl, hb1⟩; obtain ⟨q1, q2, q3⟩ := bcell hb1; simp only [World.size_alloc] at q1 q2 q3; have hbb := below_via hb1)
        | (go_at_call 78; refine (HD.out _ hbb).mono ?_; rintro e w2 ⟨rfl, hb2⟩))
      go_ret2
      exact ⟨rfl, below_then hbb hb2⟩
  · have e : rouF r c l v x = 0 := by unfold rouF; rw [if_neg h0]
    have e' : rouE r c l v x = verF r c l v x := by unfold rouE; rw [if_neg h0]
    rw [e, e']
    have hz : (verF r c l v x == 0) = false := by simpa using h0
    clear hA h0 e e'
    generalize verF r c l v x = z at *
    go_enter Tryd.func33, Tryd.ntmps33
    go_wp2_with (go_at_call 36; refine (HV.out _ (below_new _ _)).mono ?_; rintro e w1 ⟨rfl, hb1⟩)
    go_ret2
    exact ⟨rfl, below_via hb1⟩
end Go.Proofs.YtlollcabnfncpaaDoor
