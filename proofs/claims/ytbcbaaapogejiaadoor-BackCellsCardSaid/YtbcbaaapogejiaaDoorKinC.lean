/-
  All different backs that are alike to one.
-/
import Derived.Test.YtbcbaaapogejiaaDoorKinA
import Derived.Test.YtbcbaaapogejiaaDoorKinB
import Derived.Test.YtbcbaaapogejiaaDoorPlaE
namespace Go.Proofs.YtbcbaaapogejiaaDoor
open Go.RowKit

theorem cmp1_spec (f : Nat → List Int) : ∀ (p : Nat) (r : List Nat), (p :: r).Pairwise (fun a b => ¬ cmpL (f b) (f a) < 0) →
    (cmp1 f p r).Pairwise (fun a b => cmpL (f a) (f b) < 0) ∧ (∀ y ∈ cmp1 f p r, y ∈ r ∧ cmpL (f p) (f y) < 0) ∧ (∀ x ∈ r, f x = f p ∨ ∃ y ∈ cmp1 f p r, f y = f x)
  | p, [], _ => by simp [cmp1]
  | p, x :: r, h => by
    have hp := List.pairwise_cons.1 h
    have hx := List.pairwise_cons.1 hp.2
    unfold cmp1
    by_cases e : f x = f p
    · rw [if_pos e]
      obtain ⟨h1, h2, h3⟩ := cmp1_spec f x r hp.2
      refine ⟨h1, fun y hy => ⟨List.mem_cons_of_mem _ (h2 y hy).1, by rw [← e]; exact (h2 y hy).2⟩, fun y hy => ?_⟩
      rcases List.mem_cons.1 hy with q | hy
      · exact .inl (by rw [q]; exact e)
      · rcases h3 y hy with q | q
        · exact .inl (q.trans e)
        · exact .inr q
    · rw [if_neg e]
      obtain ⟨h1, h2, h3⟩ := cmp1_spec f x r hp.2
      have hpx : cmpL (f p) (f x) < 0 := by
        have a1 := hp.1 x (by simp)
        have a2 := cmpL_swap (f p) (f x)
        have a3 : cmpL (f p) (f x) ≠ 0 := fun q => e (cmpL_zero q).symm
        omega
      refine ⟨List.pairwise_cons.2 ⟨fun y hy => (h2 y hy).2, h1⟩, fun y hy => ?_, fun y hy => ?_⟩
      · rcases List.mem_cons.1 hy with q | hy
        · rw [q]; exact ⟨by simp, hpx⟩
        · exact ⟨List.mem_cons_of_mem _ (h2 y hy).1, cmpL_trans hpx (h2 y hy).2⟩
      · rcases List.mem_cons.1 hy with q | hy
        · exact .inr ⟨x, by simp, by rw [q]⟩
        · rcases h3 y hy with q | ⟨z, hz, q⟩
          · exact .inr ⟨x, by simp, q.symm⟩
          · exact .inr ⟨z, List.mem_cons_of_mem _ hz, q⟩
theorem compF_kin (f : Nat → List Int) (l : List Nat) (imgs : List (List Int)) (h : l.Pairwise (fun a b => ¬ cmpL (f b) (f a) < 0)) (hm : ∀ x, x ∈ imgs ↔ ∃ j ∈ l, f j = x) : (compF f l).map f = kinU imgs := by
  refine asc_eq ?_ (kinU_asc imgs) ?_
  · unfold Asc
    rw [List.pairwise_map]
    rcases l with _ | ⟨p, r⟩
    · exact List.Pairwise.nil
    · obtain ⟨h1, h2, _⟩ := cmp1_spec f p r h
      exact List.pairwise_cons.2 ⟨fun y hy => (h2 y hy).2, h1⟩
  · intro x
    rw [kinU_mem, hm, List.mem_map]
    rcases l with _ | ⟨p, r⟩
    · simp [compF]
    · obtain ⟨_, h2, h3⟩ := cmp1_spec f p r h
      constructor
      · rintro ⟨y, hy, e⟩
        rcases List.mem_cons.1 hy with q | hy
        · exact ⟨p, by simp, by rw [← q]; exact e⟩
        · exact ⟨y, List.mem_cons_of_mem _ (h2 y hy).1, e⟩
      · rintro ⟨y, hy, e⟩
        rcases List.mem_cons.1 hy with q | hy
        · exact ⟨p, by simp [compF], by rw [← q]; exact e⟩
        · rcases h3 y hy with q | ⟨z, hz, q⟩
          · exact ⟨p, by simp [compF], by rw [← e, q]⟩
          · exact ⟨z, by simp [compF, hz], by rw [← e, q]⟩

/-- Behind the sort: the row, and what the slices hold. -/
theorem row_sorted {w : World} {g cap : Nat} {vals : List Value} {imgs : List (List Int)} {B : Nat} (hown : w.ownsRow B 22 1 (.slice (some ⟨g, 0, none⟩) imgs.length cap) imgs.length vals) (hS : Sls w (fun i => B ≤ i ∧ (Value.slice (some ⟨g, 0, none⟩) imgs.length cap).ownBlock ≠ some i) vals imgs) (hl : ∀ x ∈ imgs, x.length < 1000000) :
    EncOf w g (fun x => vals.getD x (.slice none 0 0)) (fun x => imgs.getD x []) ∧ Go.Sort.Holds (fun x => vals.getD x (.slice none 0 0)) w g 0 (Array.range imgs.length) := by
  have hvl := hS.len
  constructor
  · intro x
    by_cases hx : x < imgs.length
    · have h1 : imgs[x]? = some imgs[x] := List.getElem?_eq_getElem hx
      obtain ⟨A, c, h2, h3, h4⟩ := hS.get h1
      refine ⟨A, c, ?_, ?_, fun ad e q => (h4 ad e).2.2 (by rw [← q]; rfl), ?_⟩
      · simp only [List.getD_eq_getElem?_getD, h1, h2, Option.getD_some]
      · simp only [List.getD_eq_getElem?_getD, h1, Option.getD_some]; exact h3
      · simp only [List.getD_eq_getElem?_getD, h1, Option.getD_some]; exact hl _ (mem_of_get h1)
    · have h1 : imgs[x]? = none := List.getElem?_eq_none (by omega)
      have h2 : vals[x]? = none := List.getElem?_eq_none (by omega)
      refine ⟨none, 0, ?_, ?_, fun ad e => (by cases e), ?_⟩
      · simp only [List.getD_eq_getElem?_getD, h1, h2, Option.getD_none]; rfl
      · simp only [List.getD_eq_getElem?_getD, h1, Option.getD_none]; exact IntsAt.nil _ _ _
      · simp only [List.getD_eq_getElem?_getD, h1, Option.getD_none]; simp
  · intro j hj
    have hj' : j < imgs.length := by simpa using hj
    have h1 : vals[j]? = some (vals[j]'(by omega)) := List.getElem?_eq_getElem _
    rw [Nat.zero_add]
    refine ⟨?_, hown.frozenAt j⟩
    rw [hown.cellAt j (by omega), h1]
    have e : (Array.range imgs.length)[j]! = j := by simp [hj']
    rw [e]
    simp only [List.getD_eq_getElem?_getD, h1, Option.getD_some]

theorem chg_putRow (enc : Nat → Value) (w : World) (g : Nat) (d : Array Nat) : Chg (fun i => i = g) w (Go.Sort.putRow enc w g 0 d) :=
  ⟨rfl, rfl, rfl, by simp, fun k _ hk => by
    simp only [Go.Sort.putRow, Go.Sort.mapBlock, Array.getElem?_modify]
    rw [if_neg (fun e => hk e.symm)]⟩

set_option maxRecDepth 100000 in
set_option maxHeartbeats 8000000 in
theorem kin_any (R C K : Int) (TA FA : Option Addr) (tc fc : Nat) (T : List Nat) (F : List (List Int)) (A : Option Addr) (c : Nat) (b : List Int) (w : World) (hT : IntsAt w w.heap.size TA (intsN T)) (hF : ListsAt w w.heap.size FA F) (hA : IntsAt w w.heap.size A b)
    (hlen : F.length = T.length) (hin : ∀ s ∈ F, s.length < 1000 ∧ ∀ i ∈ s, 0 ≤ i ∧ i < b.length) (hb : b.length < 1000) (hn : T.length ≤ 8) (hpos : 0 < T.length) :
    Calls Tryd.prog 79 #[.agg #[.int .i64 R, .int .i64 C, .int .i64 K, .slice TA T.length tc, .slice FA T.length fc], .slice A b.length c] w (RetLists w (kinU (F.map fun s => tdL s b))) := by
  have hb1 := below_new w (.cells #[.int .i64 R, .int .i64 C, .int .i64 K, .slice TA T.length tc, .slice FA T.length fc] 115)
  have hs1 : w.heap.size < (w.alloc (.cells #[.int .i64 R, .int .i64 C, .int .i64 K, .slice TA T.length tc, .slice FA T.length fc] 115)).heap.size := by simp
  have HG : ∀ (j : Nat) (u : Value), [Value.int .i64 R, .int .i64 C, .int .i64 K, .slice TA T.length tc, .slice FA T.length fc][j]? = some u → (w.alloc (.cells #[.int .i64 R, .int .i64 C, .int .i64 K, .slice TA T.length tc, .slice FA T.length fc] 115)).cell? ⟨w.heap.size, j, none⟩ = some u := by
    intro j u hj
    rw [cell_of_row _ _ _ _ _ _ (heap_new _ _)]
    simpa using hj
  have HT := Lib.hid hT
  have HF := Lib.hid hF
  have HA := Lib.hid hA
  have HI := Lib.hid hin
  have HLE := Lib.hid hlen
  clear hT hF hA hin hlen
  go_enter Tryd.func79, Tryd.ntmps79
  go_upto_region 2 with fail
  generalize w.alloc (.cells #[.int .i64 R, .int .i64 C, .int .i64 K, .slice TA T.length tc, .slice FA T.length fc] 115) = w1 at *
  have HH := Lib.hid (fun (W : World) (hW : Below (w.heap.size + 1) w1 W) => show W.cell? ⟨w.heap.size, 0, none⟩ = some (.int .i64 R) ∧ W.cell? ⟨w.heap.size, 1, none⟩ = some (.int .i64 C) ∧ W.cell? ⟨w.heap.size, 2, none⟩ = some (.int .i64 K) ∧ W.cell? ⟨w.heap.size, 3, none⟩ = some (.slice TA T.length tc) ∧ W.cell? ⟨w.heap.size, 4, none⟩ = some (.slice FA T.length fc) from
    ⟨(hW.cell (p := ⟨w.heap.size, 0, none⟩) (by simp)).trans (HG 0 _ rfl), (hW.cell (p := ⟨w.heap.size, 1, none⟩) (by simp)).trans (HG 1 _ rfl), (hW.cell (p := ⟨w.heap.size, 2, none⟩) (by simp)).trans (HG 2 _ rfl), (hW.cell (p := ⟨w.heap.size, 3, none⟩) (by simp)).trans (HG 3 _ rfl), (hW.cell (p := ⟨w.heap.size, 4, none⟩) (by simp)).trans (HG 4 _ rfl)⟩)
  have h3 := HG 3 _ rfl
  clear HG
  go_wp2
  clear h3
  go_loopw [5, 11] (fun v i wr => ∃ k : Nat, k ≤ T.length ∧ i = .int .i64 k ∧ Out (w.heap.size + 1) wr v ((F.map fun s => tdL s b).take k) ∧ Below (w.heap.size + 1) w1 wr) (fun _ i _ => T.length - (intOf i).toNat)
  case atStart => exact ⟨0, Nat.zero_le _, rfl, Out.nil _ _, Below.refl _ _⟩
  case round =>
    obtain ⟨k, hk, rfl, hO, hbw⟩ := hrel
    obtain ⟨p0, p1, p2, p3, p4⟩ := HH.out _ hbw
    have hbww := hb1.trans (hbw.mono (by omega))
    have hsz := hbw.size
    have hwz : w.heap.size < wr.heap.size := by omega
    by_cases hlt : k < T.length
    · obtain ⟨s, hy⟩ : ∃ s, F[k]? = some s := ⟨_, List.getElem?_eq_getElem (by have := HLE.out; omega)⟩
      obtain ⟨i1, i2⟩ := HI.out _ (mem_of_get hy)
      have HTu := Lib.hid (turned_any R C K TA FA T.length tc fc F A c b k _ wr (HF.out.up hbww) (HA.out.up hbww) hy i2 hb i1 (by have := HLE.out; omega))
      rw [HLE.out] at HTu
      have HK := Lib.hid (take_snoc (show (F.map fun s => tdL s b)[k]? = some (tdL s b) by simp [hy]))
      have hlk : ((F.map fun s => tdL s b).take k).length = k := by rw [List.length_take, List.length_map, HLE.out]; omega
      have hki : (k : Int) < (T.length : Int) := by omega
      generalize tdL s b = l at *
      have HO := Lib.hid hO
      clear hy hO
      go_wp2_with (first
        | (go_at_call 76; refine (HTu.out).mono ?_; rintro e w2 ⟨E, g, rfl, hE, hb2, hge⟩; have hO2 := HO.out.below (hb2.trans ((below_new w2 (.cells #[.slice E l.length g] 22)).mono hb2.size)); have hs2 := hb2.size; have hE2 := hE.up (below_new w2 (.cells #[.slice E l.length g] 22)))
        | (at_builtin; go_must (refine wpList_append_list _ rfl _ _ rfl (w.heap.size + 1) w2.heap.size _ _ l E g rfl hO2 rfl (heap_new _ _) hE2 (fun ad had => ⟨by have := (hge ad had).2; simp; omega, by have := (hge ad had).1; omega, fun e => by obtain ⟨us, h1, _⟩ := HO.out; have := (h1.lt _ e).2; have := (hge ad had).1; omega⟩) (by omega) (by simp; omega) ?_); intro A4 c4 w4 hO4 hg4 hb4))
      have hbn : Below (w.heap.size + 1) w1 w4 := ((hbw.trans (hb2.mono (by omega))).alloc (by omega) _).trans hb4
      clear p0 p1 p2 p3 p4
      go_wp2
      go_roundw
      case rel => exact ⟨k + 1, by omega, by go_num, by rw [HK.out]; rw [hlk] at hO4; exact hO4, hbn⟩
      case measure => simp [intOf]; omega
    · have e : k = T.length := by omega
      subst e
      have hlF : (F.map fun s => tdL s b).length = T.length := by rw [List.length_map, HLE.out]
      rw [List.take_of_length_le (by omega)] at hO
      have himl : ∀ x ∈ (F.map fun s => tdL s b), x.length < 1000000 := by
        intro x hx
        obtain ⟨s, hs, rfl⟩ := List.mem_map.1 hx
        rw [tdL_len]
        have := (HI.out s hs).1
        omega
      generalize hIm : (F.map fun s => tdL s b) = imgs at *
      have HIm := Lib.hid hIm
      clear hIm
      obtain ⟨vals, hown, hS⟩ := hO
      rcases id hown.2 with ⟨_, h0⟩ | ⟨g, cap, cur, rfl, hBg, hheap, hnc, hcm, _⟩
      · omega
      obtain ⟨hE, hH⟩ := row_sorted hown hS himl
      have hgs : g < wr.heap.size := lt_of_heap hheap
      generalize henc : (fun x => vals.getD x (.slice none 0 0)) = enc at *
      generalize hf : (fun x => imgs.getD x ([] : List Int)) = f at *
      have HSo := Lib.hid (sort_any enc f g cap (Array.range imgs.length) wr hE hH (by simp; omega))
      simp only [Array.size_range] at HSo
      have HE := Lib.hid hE
      have hki : ¬ (T.length : Int) < (T.length : Int) := by omega
      have hFin : ∀ (d' : Array Nat) (n : Nat) (W : World), Go.Sort.PermIn 0 imgs.length (Array.range imgs.length) d' → Go.Sort.SortedIn (ltOf fun x y => cmpL (f x) (f y)) 0 imgs.length d' → W = (Go.Sort.putRow enc wr g 0 d').drewN n →
          Chg (fun i => i = g) wr W ∧ Calls Tryd.prog 125 #[.slice (some ⟨g, 0, none⟩) imgs.length cap, .func (.func 95) #[] #[]] W fun e w' => (∃ n' , e = .returned (.slice (some ⟨g, 0, none⟩) n' cap) ∧ n' = (kinU imgs).length) ∧ ListsAt w' w'.heap.size (some ⟨g, 0, none⟩) (kinU imgs) ∧ Chg (fun i => i = g) W w' := by
        intro d' n W hP hSd hW
        obtain ⟨hsz', _, hperm⟩ := hP
        rw [Array.size_range] at hsz'
        have hcg : Chg (fun i => i = g) wr W := by
          subst hW
          exact (chg_putRow enc wr g d').trans (Chg.of_below (P := fun i => i = g) (below_drewN (Below.refl _ _) n)) (fun _ _ h => h)
        have hperm2 : d'.toList.Perm (List.range imgs.length) := by
          have e1 : d'.extract 0 imgs.length = d' := by rw [← hsz']; exact Array.extract_size
          have e2 : (Array.range imgs.length).extract 0 imgs.length = Array.range imgs.length := by
            have := Array.extract_size (xs := Array.range imgs.length)
            rwa [Array.size_range] at this
          rw [e1, e2] at hperm
          simpa using hperm
        have hsorted : d'.toList.Pairwise (fun a b => ¬ cmpL (f b) (f a) < 0) := by
          rw [List.pairwise_iff_getElem]
          intro i j hi hj hij
          have hi' : i < d'.size := by simpa using hi
          have hj' : j < d'.size := by simpa using hj
          have := hSd i j (Nat.zero_le _) hij (by omega)
          simp only [ltOf, decide_eq_false_iff_not] at this
          rw [getElem!_pos d' i hi', getElem!_pos d' j hj'] at this
          simpa using this
        have hmem : ∀ x, x ∈ imgs ↔ ∃ j ∈ d'.toList, f j = x := by
          intro x
          subst hf
          constructor
          · intro hx
            obtain ⟨j, hj, e⟩ := List.mem_iff_getElem.1 hx
            refine ⟨j, hperm2.mem_iff.2 (List.mem_range.2 hj), ?_⟩
            simp [List.getD_eq_getElem?_getD, hj, e]
          · rintro ⟨j, hj, e⟩
            have hj' := List.mem_range.1 (hperm2.mem_iff.1 hj)
            rw [← e]
            simp [List.getD_eq_getElem?_getD, hj']
        have hkin := compF_kin f d'.toList imgs hsorted hmem
        have hR : RowAt W g (d'.toList.map enc) := by
          intro j u hj
          rw [List.getElem?_map, Option.map_eq_some_iff] at hj
          obtain ⟨x, hx, rfl⟩ := hj
          have hjs : j < d'.size := by simpa using lt_of_get hx
          have hgx : d'[j]! = x := by
            rw [getElem!_pos d' j hjs]
            have : d'.toList[j]? = some d'[j] := by simp [hjs]
            rw [hx] at this
            exact (Option.some.inj this).symm
          have h1 := Go.Sort.cell?_putRow enc wr g 0 (Array.range imgs.length) d' hH (by simpa using hsz') j hjs
          rw [Nat.zero_add, hgx] at h1
          subst hW
          exact ⟨h1, (Go.Sort.frozen?_putRow enc wr g 0 d' ⟨g, j, none⟩).trans (hown.frozenAt j)⟩
        have hE2 : ∀ x, ∃ A c, enc x = .slice A (f x).length c ∧ IntsAt W W.heap.size A (f x) ∧ (∀ ad, A = some ad → ad.block ≠ g) ∧ (f x).length < 1000000 := by
          intro x
          obtain ⟨A, c, h1, h2, h3, h4⟩ := hE x
          exact ⟨A, c, h1, h2.chg hcg h3, h3, h4⟩
        have hdl : d'.toList.length = imgs.length := by simpa using hsz'
        have hcall := compact_any enc f g cap d'.toList W hE2 hR (Nat.lt_of_lt_of_le hgs hcg.size) (by omega) (by omega) hcm
        rw [hdl] at hcall
        refine ⟨hcg, hcall.mono fun e w' ⟨h1, h2, h3⟩ => ⟨⟨_, h1, by rw [← hkin, List.length_map]⟩, ?_, h3⟩⟩
        intro j y hy
        rw [← hkin, List.getElem?_map, Option.map_eq_some_iff] at hy
        obtain ⟨x, hx, rfl⟩ := hy
        obtain ⟨A, c, k1, k2, k3, k4⟩ := hE2 x
        have hgW : g < w'.heap.size := Nat.lt_of_lt_of_le (Nat.lt_of_lt_of_le hgs hcg.size) h3.size
        refine ⟨g, 0, A, c, rfl, hgW, ?_, k2.chg h3 k3⟩
        rw [Nat.zero_add, h2 j x hx, k1]
      have hBg' : w.heap.size ≤ g := by omega
      have HN := Lib.hid hlF
      rw [hlF] at HSo
      clear hE hH hown hS hheap
      go_wp2_with (first
        | (go_at_call 123; refine (HSo.out).mono ?_; rintro e w2 ⟨rfl, d', n, hP, hSd, hW⟩; obtain ⟨hcg, hcall⟩ := hFin d' n w2 (by rw [HN.out]; exact hP) (by rw [HN.out]; exact hSd) hW; rw [HN.out] at hcall; clear hW hP hSd)
        | (go_at_call 125; refine hcall.mono ?_; rintro e w3 ⟨⟨n', rfl, hn'⟩, hL3, hc3⟩))
      go_ret
      exact ⟨some ⟨g, 0, none⟩, cap, by rw [HIm.out]; rfl, by rw [HIm.out]; exact hL3, (hbww.trans ((hcg.trans hc3 (fun _ _ h => h)).below (B := w.heap.size) hbww.size (fun i hi e => by omega)))⟩
end Go.Proofs.YtbcbaaapogejiaaDoor
