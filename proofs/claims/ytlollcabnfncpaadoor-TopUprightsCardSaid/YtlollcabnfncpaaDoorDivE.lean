/-
  The rule of a memo of divisions; Straight and Rounds: the walks.
-/
import Derived.Test.YtlollcabnfncpaaDoorDivD
namespace Go.Proofs.YtlollcabnfncpaaDoor
open Go.RowKit Go.Maps

theorem halves_len {q : Bl} (hq : q.Ok) (l : List Bl) : (halvesB q l).length ≤ 10 := by
  obtain ⟨⟨a1, a2⟩, ⟨b1, b2⟩, ⟨c1, c2⟩, d1, d2⟩ := hq
  have h1 := gapN_len q.a (q.b - q.a - 1).toNat (rowsB l)
  have h2 := gapN_len q.c (q.d - q.c - 1).toNat (colsB l)
  unfold halvesB gapL
  rw [List.length_append, List.length_map, List.length_map]
  omega

set_option maxRecDepth 100000 in
set_option maxHeartbeats 4000000 in
theorem ruleD_step (all : List Bl) (B p b g n : Nat) (hall : all.length < 1000000) (ho : OfSpecD all B p b g n) : RuleSpecD all B p b g n := by
  intro q w m D hl hq hm hN
  have hpos : 0 < 22 ^ n := Nat.pow_pos (by omega)
  have HBest := Lib.hid (fun L A c W hL hlen hm hN hA hAb => best_any all B p b g n (22 ^ n) rfl ho L A c W m D hL hlen hm hN hA hAb)
  have HHalf := Lib.hid (fun A c l W hA hn => halves_any q hq A c l W hA hn)
  have HHl := Lib.hid (fun l => halves_len hq l)
  have HHm := Lib.hid (fun l x (h : x ∈ halvesB q l) => show (x.1.m < n ∧ x.1.Ok) ∧ x.2.m < n ∧ x.2.Ok from
    have h1 := halves_m h
    have h2 := halves_ok hq h
    ⟨⟨by omega, h2.1⟩, by omega, h2.2⟩)
  have HEQ := Lib.hid (divC_eq all hq)
  generalize hE : divC all q = E at *
  clear ho hE
  generalize 22 ^ n = N at *
  have hbB := hm.old
  have hBw := hm.bs
  obtain ⟨A, cap, hsl, hA⟩ := hm.sl
  obtain ⟨W0, hW0⟩ : ∃ W0, W0 = (w.alloc (.cells #[.int .i64 q.a, .int .i64 q.b, .int .i64 q.c, .int .i64 q.d] 117)).alloc (.cells #[.bool false, .int .i64 0] 123) := ⟨_, rfl⟩
  have hz0 : W0.heap.size = w.heap.size + 1 + 1 := by rw [hW0]; simp
  have hb0 : Below w.heap.size w W0 := by rw [hW0]; exact ((Below.refl _ _).alloc (Nat.le_refl _) _).alloc (by simp) _
  have q0 : W0.cell? ⟨w.heap.size, 0, none⟩ = some (.int .i64 q.a) := by rw [hW0]; simp [go_sem]
  have q1 : W0.cell? ⟨w.heap.size, 1, none⟩ = some (.int .i64 q.b) := by rw [hW0]; simp [go_sem]
  have q2 : W0.cell? ⟨w.heap.size, 2, none⟩ = some (.int .i64 q.c) := by rw [hW0]; simp [go_sem]
  have q3 : W0.cell? ⟨w.heap.size, 3, none⟩ = some (.int .i64 q.d) := by rw [hW0]; simp [go_sem]
  have hd5 : Ad (w.heap.size + 1) ⟨false, 0⟩ W0 := by
    rw [hW0]
    have := Ad.new (w.alloc (.cells #[.int .i64 q.a, .int .i64 q.b, .int .i64 q.c, .int .i64 q.d] 117)) ⟨false, 0⟩
    rw [World.size_alloc] at this
    exact this
  have D5 := Lib.hid hd5
  have HM := Lib.hid (hm.below hb0)
  have HA := Lib.hid (hA.below hb0 (by omega))
  have hgl := lt_of_cell hsl
  have HB := Lib.hid hb0
  clear hd5 hm hA
  go_enter Tryd.func116, Tryd.ntmps116
  go_wp2
  rw [← hW0]
  clear hW0 hsl
  go_loopw [6, 11] (fun v i wr => ∃ k : Nat, k ≤ all.length ∧ i = .int .i64 k ∧ wr.ownsRow W0.heap.size 117 4 v ((all.take k).filter (holdsB q)).length (blkcells ((all.take k).filter (holdsB q))) ∧ Below W0.heap.size W0 wr) (fun _ i _ => all.length - (intOf i).toNat)
  case atStart => exact ⟨0, by omega, rfl, World.ownsRow_nil _ _ _ _, Below.refl _ _⟩
  case round =>
    obtain ⟨k, hk, rfl, hown, hbr⟩ := hrel
    have hzr := hbr.size
    have r0 := (hbr.cell (p := ⟨w.heap.size, 0, none⟩) (by simp; omega)).trans q0
    have r1 := (hbr.cell (p := ⟨w.heap.size, 1, none⟩) (by simp; omega)).trans q1
    have r2 := (hbr.cell (p := ⟨w.heap.size, 2, none⟩) (by simp; omega)).trans q2
    have r3 := (hbr.cell (p := ⟨w.heap.size, 3, none⟩) (by simp; omega)).trans q3
    have hwr : w.heap.size < wr.heap.size := by omega
    by_cases hlt : k < all.length
    · have hx : all[k]? = some all[k] := List.getElem?_eq_getElem hlt
      generalize all[k] = x at hx
      obtain ⟨b', off, rfl, hb', d0, d1, d2, d3⟩ := HA.out k x hx
      replace d0 := (hbr.cell (p := ⟨b', _, none⟩) (by simp; omega)).trans d0
      replace d1 := (hbr.cell (p := ⟨b', _, none⟩) (by simp; omega)).trans d1
      replace d2 := (hbr.cell (p := ⟨b', _, none⟩) (by simp; omega)).trans d2
      replace d3 := (hbr.cell (p := ⟨b', _, none⟩) (by simp; omega)).trans d3
      have hbz : b' < wr.heap.size := by omega
      have hflen : ((all.take k).filter (holdsB q)).length < 1000000 := Nat.lt_of_le_of_lt (List.length_filter_le _ _) (by rw [List.length_take]; omega)
      have HS := Lib.hid (congrArg (List.filter (holdsB q)) (take_snoc hx))
      rw [List.filter_append] at HS
      generalize hfl : (all.take k).filter (holdsB q) = fl at *
      have HH := Lib.hid (fun W => holds_any q x W)
      clear hx hfl
      rcases hhx : holdsB q x with _ | _
      · rw [hhx] at HH
        have HS' := Lib.hid (show (all.take (k + 1)).filter (holdsB q) = fl by rw [HS.out, List.filter_cons_of_neg (by simp [hhx])]; simp)
        clear hhx HS
        go_wp2_with (go_at_call 117; refine (HH.out _).mono ?_; rintro e w3 ⟨rfl, hb3⟩)
        go_roundw
        case rel => exact ⟨k + 1, by omega, by go_num, by rw [HS'.out]; exact own_below (hown.alloc _) hb3, hbr.trans (((below_new _ _).trans (hb3.mono (by simp))).mono hzr)⟩
        case measure => simp [intOf]; omega
      · rw [hhx] at HH
        have HS' := Lib.hid (show (all.take (k + 1)).filter (holdsB q) = fl ++ [x] by rw [HS.out, List.filter_cons_of_pos hhx]; rfl)
        clear hhx HS
        go_wp2_with (first
          | (go_at_call 117; refine (HH.out _).mono ?_; rintro e w3 ⟨rfl, hb3⟩; have hz3 := hb3.size; simp only [World.size_alloc] at hz3; have y0 := (hb3.cell (p := ⟨wr.heap.size, 0, none⟩) (by simp)).trans (show _ = some (Value.int .i64 x.a) by simp [go_sem]); have y1 := (hb3.cell (p := ⟨wr.heap.size, 1, none⟩) (by simp)).trans (show _ = some (Value.int .i64 x.b) by simp [go_sem]); have y2 := (hb3.cell (p := ⟨wr.heap.size, 2, none⟩) (by simp)).trans (show _ = some (Value.int .i64 x.c) by simp [go_sem]); have y3 := (hb3.cell (p := ⟨wr.heap.size, 3, none⟩) (by simp)).trans (show _ = some (Value.int .i64 x.d) by simp [go_sem]); have own3 := own_below (hown.alloc _) hb3)
          | (at_builtin; refine wpList_append_blk _ rfl _ _ rfl W0.heap.size _ w3.heap.size _ _ x rfl (own3.alloc _) rfl (heap_at _ _ _ rfl) (by omega) (by simp; omega) ?_; intro A5 c5 w5 hown5 hgr5 _))
        go_roundw
        case rel => exact ⟨k + 1, by omega, by go_num, by rw [HS'.out, List.length_append]; exact hown5, ((hbr.trans (((below_new _ _).trans (hb3.mono (by simp))).mono hzr)).alloc (by omega) _).grown hgr5 (by simp; omega) (fun g hg => (own3.lt g hg).1)⟩
        case measure => simp [intOf]; omega
    · have e : all.take k = all := List.take_of_length_le (by omega)
      rw [e] at hown
      have hflen : (all.filter (holdsB q)).length < 1000000 := Nat.lt_of_le_of_lt (List.length_filter_le _ _) hall
      generalize hfl : all.filter (holdsB q) = fl at *
      obtain ⟨A', c', rfl, hA', _⟩ := own_blks hown
      have hmr := HM.out.below hbr
      have hmr' := Lib.hid hmr
      have D5r := Lib.hid (D5.out.below hbr)
      clear e hfl hown
      by_cases h1 : fl.length = 1
      · have hv : E = ⟨true, 0⟩ := by rw [HEQ.out, if_pos h1]
        have HV := Lib.hid hv
        have hb1 : ((fl.length : Int) == 1) = true := by rw [h1]; rfl
        obtain ⟨s0, s1, s2, s3⟩ := D5r.out
        clear h1 hv hmr hA'
        go_wp2
        rw [HV.out]
        refine bodyPost_ret (v := .agg #[.bool true, .int .i64 0]) (by simp [results, Tryd.results116, go_sem, s0, s1]) rfl ⟨rfl, m, D, hmr'.out.keep (chg2 wr (w.heap.size + 1) _ _) (fun i h => by omega), by omega, ?_⟩
        exact (Chg.of_below (HB.out.trans (hbr.mono (by omega)))).trans (chg2 wr (w.heap.size + 1) _ _) (fun i hi h => by omega)
      · have hv : E = bestD ((halvesB q fl).map fun x => (divC all x.1, divC all x.2)) := by rw [HEQ.out, if_neg h1]
        have HV := Lib.hid hv
        have hb1 : ((fl.length : Int) == 1) = false := by simp; omega
        have HHm' := Lib.hid (HHm.out fl)
        have hhl := HHl.out fl
        have HH := Lib.hid (HHalf.out A' c' fl wr hA' hflen)
        have hHN : (halvesB q fl).length * (2 * N) ≤ 10 * (2 * N) := Nat.mul_le_mul_right _ hhl
        generalize halvesB q fl = H at *
        have HB118 : Hid (∀ A c W, MemD all B p b g W m D → PairsAt W W.heap.size A H → (∀ ad, A = some ad → B ≤ ad.block) → Calls Tryd.prog 118 #[.pointer (some ⟨p, 0, none⟩), .slice A H.length c] W (RetBest all B p b g (m + H.length * (2 * N)) W E)) :=
          Lib.hid (fun A c W hm hA hAb => by rw [hv]; exact HBest.out H A c W HHm'.out hhl hm (by omega) hA hAb)
        have hn5 : ¬ w.heap.size + 1 = b := by omega
        clear h1 hA' hv HBest HHm HHm' HHalf HEQ
        go_wp2_with (first
          | (go_at_call 119; refine HH.out.mono ?_; rintro e w2 ⟨A2, c2, rfl, hA2, hb2, hab2⟩; have hm2 := hmr.below hb2)
          | (go_at_call 118; refine (HB118.out _ _ _ hm2 hA2 (fun ad h => by have := hab2 ad h; omega)).mono ?_; rintro e w3 ⟨rfl, m3, D3, hm3, hle3, hch3⟩; have hm3' := Lib.hid hm3; obtain ⟨s0, s1, s2, s3⟩ := (D5r.out.below hb2).chg hch3 hn5))
        refine bodyPost_ret (v := .agg #[.bool E.st, .int .i64 (E.n : Nat)]) (by simp [results, Tryd.results116, go_sem, s0, s1]) rfl ⟨rfl, m3, D3, hm3'.out.keep (chg2 w3 (w.heap.size + 1) _ _) (fun i h => by omega), by omega, ?_⟩
        exact (((Chg.of_below (HB.out.trans (hbr.mono (by omega)))).then_below hb2).trans hch3 (fun _ _ h => h)).trans (chg2 w3 (w.heap.size + 1) _ _) (fun i hi h => by omega)

theorem ofD_any (all : List Bl) (B p b g : Nat) (hall : all.length < 1000000) : ∀ n, OfSpecD all B p b g n
  | 0 => fun _ _ _ _ hl => absurd hl (Nat.not_lt_zero _)
  | n + 1 => ofD_step all B p b g n (ruleD_step all B p b g n hall (ofD_any all B p b g hall n))

theorem ofD13 (all : List Bl) (B p b g m : Nat) (hall : all.length < 1000000) (q : Bl) (hq : q.Ok) (D : DataW Unit) (w : World) (hm : MemD all B p b g w m D) (hN : m ≤ 500000) :
    Calls Tryd.prog 120 #[.pointer (some ⟨p, 0, none⟩), .agg #[.int .i64 q.a, .int .i64 q.b, .int .i64 q.c, .int .i64 q.d]] w (RetMemD all B p b g m (22 ^ 13) w (divC all q)) :=
  ofD_any all B p b g hall 13 q w m D (by have := hq.m; omega) hq hm (by omega)

theorem newMemoD_any (k : Nat) (q : Addr) (w : World) :
    Calls Tryd.prog 115 #[.func (.func k) #[] #[.pointer (some q)]] w fun e w' => e = .returned (.pointer (some ⟨w.heap.size + 1, 0, none⟩)) ∧ (w.alloc (.map #[] 0)).alloc (.cells #[.func (.func k) #[] #[.pointer (some q)], .map (some w.heap.size)] 192) = w' := by
  have hmm := @run_makeMap Tryd.prog
  go_enter Tryd.func115, Tryd.ntmps115
  go_wp2
  go_ret
  exact ⟨rfl, rfl⟩

/-- The memo of the divisions ahead of the first question. -/
theorem memD_start (all : List Bl) (A : Option Addr) (c : Nat) (w1 : World) (hA : BlksAt w1 w1.heap.size A all) :
    MemD all (w1.heap.size + 1 + 1 + 1) (w1.heap.size + 1 + 1) (w1.heap.size + 1) w1.heap.size (((w1.alloc (.cells #[.slice A all.length c] 119)).alloc (.map #[] 0)).alloc (.cells #[.func (.func 116) #[] #[.pointer (some ⟨w1.heap.size, 0, none⟩)], .map (some (w1.heap.size + 1))] 192)) 0 (.map []) := by
  have hb : Below w1.heap.size w1 (((w1.alloc (.cells #[.slice A all.length c] 119)).alloc (.map #[] 0)).alloc (.cells #[.func (.func 116) #[] #[.pointer (some ⟨w1.heap.size, 0, none⟩)], .map (some (w1.heap.size + 1))] 192)) := (((Below.refl _ _).alloc (Nat.le_refl _) _).alloc (by simp) _).alloc (by simp; omega) _
  refine ⟨?_, ?_, ⟨A, c, ?_, (hA.below hb (Nat.le_refl _)).mono (by omega)⟩, ?_, ?_, by omega, by simp⟩
  · simp [go_sem]
  · simp [go_sem]
  · simp [go_sem]
  · have := World.ownsMap_made (H := Unit) (w1.alloc (.cells #[.slice A all.length c] 119)) Tryd.prog 117 dvR
    rw [World.size_alloc] at this
    exact this.alloc _
  · intro k _ hk
    simp [Maps.has] at hk

def divS (s : Sh) (l : List Cd) : Dv := divC (l.map (blk s)) (areaB s)

set_option maxRecDepth 100000 in
set_option maxHeartbeats 2000000 in
theorem divided_any (s : Sh) (A : Option Addr) (c : Nat) (l : List Cd) (w : World) (hs : s.Ok) (hA : CardsAt w w.heap.size A l) (hf : ∀ x ∈ l, fitP s x) (hn : l.length < 1000000) :
    Calls Tryd.prog 77 #[.agg #[.int .i64 s.r, .int .i64 s.c, .int .i64 s.l, .int .i64 s.w], .slice A l.length c] w fun e w' => e = .returned (.agg #[.bool (divS s l).st, .int .i64 ((divS s l).n : Nat)]) ∧ Below w.heap.size w w' := by
  have hmf : ∀ (fn : Fn) (first cap : Array Value) (w : World), (Instr.makeFunc fn first cap).run Tryd.prog w = .ok (.func fn first cap) w := fun _ _ _ _ => rfl
  have hlm : (l.map (blk s)).length = l.length := List.length_map ..
  have HP := Lib.hid (fun W (Q : Ending → World → Prop) (h : Below w.heap.size w W) (hQ : ∀ A' d w', BlksAt w' w'.heap.size A' (l.map (blk s)) → Below W.heap.size W w' → Q (.returned (.slice A' l.length d)) w') =>
    (places_any s A c l W hs (hA.up h) hf hn).mono fun e w' ⟨A', d, he, hi, hb, _⟩ => by rw [he, hlm]; exact hQ A' d w' hi hb)
  have HAr := Lib.hid (fun W => area_any s W)
  have HO := Lib.hid (fun B p b g W D hm => ofD13 (l.map (blk s)) B p b g 0 (by rw [hlm]; exact hn) (areaB s) (areaB_ok hs) D W hm (by omega))
  have HE : divS s l = divC (l.map (blk s)) (areaB s) := rfl
  generalize hE : divS s l = E at HE ⊢
  rw [← HE] at HO
  have hb0 : Below w.heap.size w ((w.alloc (.cells #[.int .i64 s.r, .int .i64 s.c, .int .i64 s.l, .int .i64 s.w] 23)).alloc (.cells #[.bool false, .int .i64 0] 123)) := ((Below.refl _ _).alloc (Nat.le_refl _) _).alloc (by simp) _
  have d4 := Ad.new (w.alloc (.cells #[.int .i64 s.r, .int .i64 s.c, .int .i64 s.l, .int .i64 s.w] 23)) ⟨false, 0⟩
  rw [World.size_alloc] at d4
  have D4 := Lib.hid d4
  clear d4 hE HE hf hA
  go_enter Tryd.func77, Tryd.ntmps77
  go_wp2_with (first
    | (go_at_call 75; with_reducible refine HP.out _ _ hb0 ?_; intro A1 c1 w1 hA1 hb1; have hz1 := hb1.size; simp only [World.size_alloc] at hz1; have hz1' : w.heap.size < w1.heap.size := (by omega); have hz1'' : w.heap.size + 1 < w1.heap.size := (by omega); have k0 := (hb1.cell (p := ⟨w.heap.size, 0, none⟩) (by simp; omega)).trans (show _ = some (Value.int .i64 s.r) by simp [go_sem]); have k1 := (hb1.cell (p := ⟨w.heap.size, 1, none⟩) (by simp; omega)).trans (show _ = some (Value.int .i64 s.c) by simp [go_sem]); have k2 := (hb1.cell (p := ⟨w.heap.size, 2, none⟩) (by simp; omega)).trans (show _ = some (Value.int .i64 s.l) by simp [go_sem]); have k3 := (hb1.cell (p := ⟨w.heap.size, 3, none⟩) (by simp; omega)).trans (show _ = some (Value.int .i64 s.w) by simp [go_sem]))
    | (go_at_call 115; refine (newMemoD_any 116 _ _).mono ?_; rintro e w2 ⟨rfl, hw2⟩; have hb2 : Below w1.heap.size w1 w2 := (by rw [← hw2]; exact (((Below.refl w1.heap.size w1).alloc (Nat.le_refl _) _).alloc (by simp) _).alloc (by simp; omega) _); have hm2 := memD_start (l.map (blk s)) A1 c1 w1 hA1; rw [hlm] at hm2; simp only [World.size_alloc] at hw2; rw [hw2] at hm2; have l0 := (hb2.cell (p := ⟨w.heap.size, 0, none⟩) hz1').trans k0; have l1 := (hb2.cell (p := ⟨w.heap.size, 1, none⟩) hz1').trans k1; have l2 := (hb2.cell (p := ⟨w.heap.size, 2, none⟩) hz1').trans k2; have l3 := (hb2.cell (p := ⟨w.heap.size, 3, none⟩) hz1').trans k3; have hm2' := Lib.hid hm2; have hw2' := Lib.hid hw2; clear hw2 hm2)
    | (go_at_call 74; refine (HAr.out _).mono ?_; rintro e w3 ⟨rfl, hb3⟩; have hm3 := hm2'.out.below hb3)
    | (go_at_call 120; refine (HO.out _ _ _ _ _ _ hm3).mono ?_; rintro e w4 ⟨rfl, m4, D4', hm4, hle4, hch4⟩; have hn4 : ¬ w.heap.size + 1 = w1.heap.size + 1 := (by omega); have AF := Lib.hid ((((D4.out.below hb1).below hb2).below hb3).chg hch4 hn4); obtain ⟨s0, s1, s2, s3⟩ := AF.out))
  refine bodyPost_ret (v := .agg #[.bool E.st, .int .i64 (E.n : Nat)]) (by simp [results, Tryd.results77, go_sem, s0, s1]) rfl ⟨rfl, ?_⟩
  have hz2 := hb2.size
  have hz3 := hb3.size
  have h1 : Below w.heap.size w w1 := hb0.trans (hb1.mono (by simp; omega))
  have h3 : Below w.heap.size w w3 := (h1.trans (hb2.mono (by omega))).trans (hb3.mono (by omega))
  have h4 : Below w.heap.size w w4 := h3.trans (hch4.below (by omega) (fun i hi h => by omega))
  exact (h4.setCell (p := ⟨w.heap.size + 1, 0, none⟩) (by simp) _).setCell (p := ⟨w.heap.size + 1, 1, none⟩) (by simp) _

/-- Whether a filling is straight; its rounds; the errors. -/
def strF (r c l v : Int) (x : List Cd) : Bool := if verF r c l v x = 0 then (divS ⟨r.toNat, c.toNat, l.toNat, v.toNat⟩ x).st else false
def rouF (r c l v : Int) (x : List Cd) : Int := if verF r c l v x = 0 then if (divS ⟨r.toNat, c.toNat, l.toNat, v.toNat⟩ x).st = true then (((divS ⟨r.toNat, c.toNat, l.toNat, v.toNat⟩ x).n : Nat) : Int) else 0 else 0
def rouE (r c l v : Int) (x : List Cd) : Int := if verF r c l v x = 0 then if (divS ⟨r.toNat, c.toNat, l.toNat, v.toNat⟩ x).st = true then 0 else 12 else verF r c l v x

theorem field123 (f : Bool) (n : Int) (w : World) : (Instr.field 123 (.agg #[.bool f, .int .i64 n]) 0).run Tryd.prog w = .ok (.bool f) w := by kernel_rfl

set_option maxRecDepth 100000 in
set_option maxHeartbeats 2000000 in
theorem straight_any (r c l v : Int) (A : Option Addr) (cap : Nat) (x : List Cd) (w : World) (hA : CardsAt w w.heap.size A x) (hn : x.length < 1000000) :
    Calls Tryd.prog 30 #[.agg #[.int .i64 r, .int .i64 c, .int .i64 l, .int .i64 v], .slice A x.length cap] w fun e w' => e = .returned (.tuple #[.bool (strF r c l v x), .int .i64 (verF r c l v x)]) ∧ Below w.heap.size w w' := by
  have HV := Lib.hid (fun W (h : Below w.heap.size w W) => verify_any r c l v A cap x W (hA.up h) hn)
  by_cases h0 : verF r c l v x = 0
  · have e : strF r c l v x = (divS ⟨r.toNat, c.toNat, l.toNat, v.toNat⟩ x).st := by unfold strF; rw [if_pos h0]
    rw [h0] at HV
    rw [e, h0]
    obtain ⟨s, hs, rfl, rfl, rfl, rfl, hv⟩ := ver_ok h0
    have HD := Lib.hid (fun W (h : Below w.heap.size w W) => divided_any s A cap x W hs (hA.up h) (verM_fits x 0 (-1) hv) hn)
    clear hv hA h0 e
    show Calls Tryd.prog 30 _ w fun e w' => e = .returned (.tuple #[.bool (divS s x).st, .int .i64 0]) ∧ Below w.heap.size w w'
    generalize divS s x = E at *
    have hfd := field123
    go_enter Tryd.func30, Tryd.ntmps30
    go_wp2_with (first
      | (go_at_call 35; refine (HV.out _ (below_new _ _)).mono ?_; rintro e w1 ⟨rfl, hb1⟩; obtain ⟨q1, q2, q3⟩ := bcell hb1; simp only [World.size_alloc] at q1 q2 q3; have hbb := below_via hb1)
      | (go_at_call 77; refine (HD.out _ hbb).mono ?_; rintro e w2 ⟨rfl, hb2⟩))
    go_ret2
    exact ⟨rfl, below_then hbb hb2⟩
  · have e : strF r c l v x = false := by unfold strF; rw [if_neg h0]
    rw [e]
    have hz : (verF r c l v x == 0) = false := by simpa using h0
    clear hA h0 e
    generalize verF r c l v x = z at *
    go_enter Tryd.func30, Tryd.ntmps30
    go_wp2_with (go_at_call 35; refine (HV.out _ (below_new _ _)).mono ?_; rintro e w1 ⟨rfl, hb1⟩)
    go_ret2
    exact ⟨rfl, below_via hb1⟩

set_option maxRecDepth 100000 in
set_option maxHeartbeats 2000000 in
theorem rounds_any (r c l v : Int) (A : Option Addr) (cap : Nat) (x : List Cd) (w : World) (hA : CardsAt w w.heap.size A x) (hn : x.length < 1000000) :
    Calls Tryd.prog 32 #[.agg #[.int .i64 r, .int .i64 c, .int .i64 l, .int .i64 v], .slice A x.length cap] w fun e w' => e = .returned (.tuple #[.int .i64 (rouF r c l v x), .int .i64 (rouE r c l v x)]) ∧ Below w.heap.size w w' := by
  have HV := Lib.hid (fun W (h : Below w.heap.size w W) => verify_any r c l v A cap x W (hA.up h) hn)
  by_cases h0 : verF r c l v x = 0
  · have e : rouF r c l v x = if (divS ⟨r.toNat, c.toNat, l.toNat, v.toNat⟩ x).st = true then (((divS ⟨r.toNat, c.toNat, l.toNat, v.toNat⟩ x).n : Nat) : Int) else 0 := by unfold rouF; rw [if_pos h0]
    have e' : rouE r c l v x = if (divS ⟨r.toNat, c.toNat, l.toNat, v.toNat⟩ x).st = true then 0 else 12 := by unfold rouE; rw [if_pos h0]
    rw [h0] at HV
    rw [e, e']
    obtain ⟨s, hs, rfl, rfl, rfl, rfl, hv⟩ := ver_ok h0
    have HD := Lib.hid (fun W (h : Below w.heap.size w W) => divided_any s A cap x W hs (hA.up h) (verM_fits x 0 (-1) hv) hn)
    clear hv hA h0 e e'
    show Calls Tryd.prog 32 _ w fun e w' => e = .returned (.tuple #[.int .i64 (if (divS s x).st = true then (((divS s x).n : Nat) : Int) else 0), .int .i64 (if (divS s x).st = true then 0 else 12)]) ∧ Below w.heap.size w w'
    generalize divS s x = E at *
    obtain ⟨st, n⟩ := E
    dsimp only at HD ⊢
    rcases st with _ | _
    all_goals
      go_enter Tryd.func32, Tryd.ntmps32
      go_wp2_with (first
        | (go_at_call 35; refine (HV.out _ (below_new _ _)).mono ?_; rintro e w1 ⟨rfl, hb1⟩; obtain ⟨q1, q2, q3⟩ := bcell hb1; simp only [World.size_alloc] at q1 q2 q3; have hbb := below_via hb1)
        | (go_at_call 77; refine (HD.out _ hbb).mono ?_; rintro e w2 ⟨rfl, hb2⟩))
      go_ret2
      exact ⟨rfl, (below_then hbb hb2).alloc (by have := hb2.size; have := hbb.size; omega) _⟩
  · have e : rouF r c l v x = 0 := by unfold rouF; rw [if_neg h0]
    have e' : rouE r c l v x = verF r c l v x := by unfold rouE; rw [if_neg h0]
    rw [e, e']
    have hz : (verF r c l v x == 0) = false := by simpa using h0
    clear hA h0 e e'
    generalize verF r c l v x = z at *
    go_enter Tryd.func32, Tryd.ntmps32
    go_wp2_with (go_at_call 35; refine (HV.out _ (below_new _ _)).mono ?_; rintro e w1 ⟨rfl, hb1⟩)
    go_ret2
    exact ⟨rfl, below_via hb1⟩
end Go.Proofs.YtlollcabnfncpaaDoor
