/-
  What a memo of numbers is in memory.
-/
import Derived.Test.YtlollcabnfncpaaDoorKeys
namespace Go.Proofs.YtlollcabnfncpaaDoor
open Go.RowKit Go.Maps

theorem lt_of_cell {w : World} {b o : Nat} {v : Value} (h : w.cell? ⟨b, o, none⟩ = some v) : b < w.heap.size := by
  refine Nat.lt_of_not_le fun hn => ?_
  have : w.heap[b]? = none := Array.getElem?_eq_none hn
  simp [World.cell?, this] at h
theorem ne_of_map {H : Type} {w : World} {P : Program} {k : TypeId} {R : Value → Option (DataW H × List MemPlace)} {b n : Nat} {D : DataW H} (hm : w.ownsMap P k R b n D) {i o : Nat} {v : Value} (h : w.cell? ⟨i, o, none⟩ = some v) : i ≠ b := by
  rintro rfl
  obtain ⟨es, clock, hb, _⟩ := hm
  simp [World.cell?, hb] at h
theorem own_map_below {H : Type} {w w' : World} {P : Program} {k : TypeId} {R : Value → Option (DataW H × List MemPlace)} {b n : Nat} {D : DataW H} (hm : w.ownsMap P k R b n D) (hb : Below w.heap.size w w') : w'.ownsMap P k R b n D := by
  obtain ⟨es, clock, h, r⟩ := hm
  exact ⟨es, clock, (hb.block b (lt_of_heap h)).trans h, r⟩

theorem zero3 (w : World) : (zeroValue 3).run Tryd.prog w = .ok (.int .i64 0) w := by kernel_rfl
theorem wf_u64 {k : Nat} (h : k < 18446744073709551616) : (Lit.int .u64 (k : Int)).wf = true := by
  simp [Lit.wf, IntKind.min, IntKind.max, IntKind.signed, IntKind.bits]; omega
theorem wf_i64 {k : Nat} (h : k < 9223372036854775808) : (Lit.int .i64 (k : Int)).wf = true := by
  simp [Lit.wf, IntKind.min, IntKind.max, IntKind.signed, IntKind.bits]; omega

/-- The memo of the numbers of fillings: its struct in block p, its map in block b, the sheet that its rule captured in block g. -/
structure MemoI (s : Sh) (p b g : Nat) (w : World) (m : Nat) (D : DataW Unit) : Prop where
  fn : w.cell? ⟨p, 0, none⟩ = some (.func (.func 106) #[] #[.pointer (some ⟨g, 0, none⟩)])
  mp : w.cell? ⟨p, 1, none⟩ = some (.map (some b))
  s0 : w.cell? ⟨g, 0, none⟩ = some (.int .i64 s.r)
  s1 : w.cell? ⟨g, 1, none⟩ = some (.int .i64 s.c)
  s2 : w.cell? ⟨g, 2, none⟩ = some (.int .i64 s.l)
  s3 : w.cell? ⟨g, 3, none⟩ = some (.int .i64 s.w)
  own : w.ownsMap Tryd.prog 105 (plainElem Tryd.prog 3) b m D
  good : ∀ k : Nat, Maps.has D (.int .u64 k) = true → D.atKey (.int .u64 k) (.lit (.int .i64 0)) = .lit (.int .i64 (cntC s k : Nat))
  tab : TabW w
  keys : KeysN D

/-- The map of a memo alone changes, and stays a memo's map. -/
theorem MemoI.chg {s : Sh} {p b g m m' : Nat} {w w' : World} {D D' : DataW Unit} (h : MemoI s p b g w m D) (hc : Chg (fun i => i = b) w w') (ho : w'.ownsMap Tryd.prog 105 (plainElem Tryd.prog 3) b m' D')
    (hg : ∀ k : Nat, Maps.has D' (.int .u64 k) = true → D'.atKey (.int .u64 k) (.lit (.int .i64 0)) = .lit (.int .i64 (cntC s k : Nat))) (hk : KeysN D') : MemoI s p b g w' m' D' := by
  have c := fun {i o : Nat} {v : Value} (e : w.cell? ⟨i, o, none⟩ = some v) => (hc.cell (p := ⟨i, o, none⟩) (lt_of_cell e) (ne_of_map h.own e)).trans e
  exact ⟨c h.fn, c h.mp, c h.s0, c h.s1, c h.s2, c h.s3, ho, hg, ⟨Nat.lt_of_lt_of_le h.tab.1 hc.size, fun j hj => c (h.tab.2 j hj)⟩, hk⟩
theorem MemoI.below {s : Sh} {p b g m : Nat} {w w' : World} {D : DataW Unit} (h : MemoI s p b g w m D) (hb : Below w.heap.size w w') : MemoI s p b g w' m D :=
  h.chg (Chg.of_below hb) (own_map_below h.own hb) h.good h.keys
theorem MemoI.mono {s : Sh} {p b g m m' : Nat} {w : World} {D : DataW Unit} (h : MemoI s p b g w m D) (hm : m ≤ m') : MemoI s p b g w m' D := { h with own := h.own.mono hm }
theorem MemoI.put {s : Sh} {p b g m k : Nat} {w w' : World} {D : DataW Unit} (h : MemoI s p b g w m D) (ho : w'.ownsMap Tryd.prog 105 (plainElem Tryd.prog 3) b (m + 1) (D.put (.int .u64 k) (.lit (.int .i64 (cntC s k : Nat)))))
    (hg : w.grownBy w' (some b)) (hk36 : k < 68719476736) : MemoI s p b g w' (m + 1) (D.put (.int .u64 k) (.lit (.int .i64 (cntC s k : Nat)))) := by
  refine h.chg ((Chg.of_grown hg).mono fun i _ e => Option.some.inj e) ho (fun k' hk' => ?_) (h.keys.put hk36 _)
  have hi := h.own.isMap
  by_cases e : k' = k
  · subst e
    exact atKey_put_same hi (show WideAt.IsKeyLit (Lit.int .u64 (k' : Int)) from trivial) _ _
  · have hne : (Lit.int .u64 (k' : Int)) ≠ .int .u64 (k : Int) := by simp; omega
    rw [has_put_other hne] at hk'
    rw [atKey_put_other hne]
    exact h.good k' hk'

/-- A memo has no more entries than there are sets of squares. -/
theorem MemoI.few {s : Sh} {p b g m : Nat} {w : World} {D : DataW Unit} (h : MemoI s p b g w m D) : MemoI s p b g w 68719476736 D := { h with own := own_few h.own h.keys }

/-- A number is handed back; the memo may know more. N bounds how much more. -/
def RetMemo (s : Sh) (p b g m N : Nat) (w : World) (v : Nat) (e : Ending) (w' : World) : Prop :=
  e = .returned (.int .i64 (v : Nat)) ∧ ∃ m' D', MemoI s p b g w' m' D' ∧ m' + 1 ≤ m + N ∧ Chg (fun i => i = b) w w'

def OfSpec (s : Sh) (p b g n : Nat) : Prop := ∀ (cov : Nat) (w : World) (m : Nat) (D : DataW Unit), lft s cov < n → InS s cov → MemoI s p b g w m D → m + 2 ^ n ≤ 1152921504606846976 →
  Calls Tryd.prog 69 #[.pointer (some ⟨p, 0, none⟩), .int .u64 cov] w (RetMemo s p b g m (2 ^ n) w (cntC s cov))

def RuleSpec (s : Sh) (p b g n : Nat) : Prop := ∀ (cov : Nat) (w : World) (m : Nat) (D : DataW Unit), lft s cov < n + 1 → InS s cov → MemoI s p b g w m D → m + 2 * 2 ^ n ≤ 1152921504606846976 →
  Calls Tryd.prog 106 #[.pointer (some ⟨p, 0, none⟩), .int .u64 cov, .pointer (some ⟨g, 0, none⟩)] w (RetMemo s p b g m (2 * 2 ^ n - 1) w (cntC s cov))

set_option maxRecDepth 100000 in
set_option maxHeartbeats 1000000 in
theorem of_step (s : Sh) (p b g n : Nat) (hs : s.Ok) (hr : RuleSpec s p b g n) : OfSpec s p b g (n + 1) := by
  intro cov w m D hl hc hm hN
  have hN' : m + 2 * 2 ^ n ≤ 1152921504606846976 := by rw [Nat.pow_succ] at hN; omega
  have h2 : 2 ^ (n + 1) = 2 * 2 ^ n := by rw [Nat.pow_succ]; omega
  have hpos := Nat.two_pow_pos n
  have hR := Lib.hid (hr cov w m D hl hc hm hN')
  have hkey := keyOf_int_mk (P := Tryd.prog) Tryd.underlying105 (wf_u64 (k := cov) (by have := hc.lt36 hs; omega))
  have h64 := cntC_le s cov
  rw [h2]
  clear hr h2 hN
  generalize 2 ^ n = N at *
  have hfn := hm.fn
  have hmp := hm.mp
  have hown := hm.own
  by_cases hh : Maps.has D (.int .u64 (cov : Int)) = true
  · have hgd := Lib.hid (hm.good cov hh)
    go_enter Tryd.func69, Tryd.ntmps69
    go_wp2_with (at_lookup; refine wpList_lookup_own_ok_int _ rfl _ _ 154 rfl 105 3 .i64 law105 Tryd.underlying154 Tryd.underlying3 (zero3 _) b m D rfl hown _ _ rfl hkey ?_; intro c hat hwc)
    go_ret
    exact ⟨ret_eq (by have h1 := hgd.out.symm.trans hat; simp at h1; exact h1.symm), m, D, hm, by omega, Chg.refl _ _⟩
  · have hh' := Bool.eq_false_iff.2 hh
    clear hh
    go_enter Tryd.func69, Tryd.ntmps69
    go_wp2_with (first
      | (at_lookup; refine wpList_lookup_own_ok_int _ rfl _ _ 154 rfl 105 3 .i64 law105 Tryd.underlying154 Tryd.underlying3 (zero3 _) b m D rfl hown _ _ rfl hkey ?_; intro c hat hwc)
      | (go_at_call 106; refine hR.out.mono ?_; rintro e w1 ⟨rfl, m1, D1, hm1, hle1, hch1⟩; have hfn1 := hm1.fn; have hmp1 := hm1.mp; have hown1 := hm1.own)
      | (at_mapUpdate; refine wpList_mapUpdate_own _ rfl _ _ _ 154 rfl 105 3 law105 Tryd.underlying154 _ b m1 D1 rfl hown1 (by unfold maxLen; omega) _ _ _ rfl rfl hkey _ [] (plainElem_int Tryd.underlying3 (wf_i64 (by omega))) ?_; intro w2 hown2 hgr2))
    go_ret
    exact ⟨rfl, m1 + 1, _, hm1.put hown2 hgr2 (hc.lt36 hs), by omega, hch1.trans (Chg.of_grown hgr2) (fun i _ e => Option.some.inj e)⟩

set_option maxRecDepth 100000 in
set_option maxHeartbeats 1000000 in
theorem rule_step (s : Sh) (p b g n : Nat) (hs : s.Ok) (ho : OfSpec s p b g n) : RuleSpec s p b g n := by
  intro cov w m D hl hc hm hN
  have hpos := Nat.two_pow_pos n
  unfold OfSpec at ho
  generalize 2 ^ n = N at *
  have HO := Lib.hid ho
  clear ho
  have hW := Lib.hid (fun W => whole_any s W hs)
  have hc36 := hc.lt36 hs
  have hw36 := whl_lt36 hs
  have e0 := hm.s0
  have e1 := hm.s1
  have e2 := hm.s2
  have e3 := hm.s3
  have hgl := lt_of_cell e0
  by_cases hwh : cov = whl s
  · have hb : ((cov : Int) == (whl s : Int)) = true := by rw [beq_iff_eq, hwh]
    have hv : cntC s cov = 1 := by rw [cntC_eq hs, if_pos hwh]
    rw [hv]
    clear hv hwh
    generalize whl s = z at hW hb hw36
    go_enter Tryd.func106, Tryd.ntmps106
    go_wp2_with (go_at_call 83; refine (hW.out _).mono ?_; rintro e w1 ⟨rfl, hb1⟩; have hm1 := hm.below hb1)
    go_ret
    exact ⟨rfl, m, D, hm1, by omega, Chg.of_below hb1⟩
  · have hb : ((cov : Int) == (whl s : Int)) = false := by simp; omega
    have hNx := Lib.hid (fun W h => next_any s cov W hs hc hwh h)
    have hmem := fun x (h : x ∈ nxt s cov) => mem_nxt h
    have hlft := fun x (h : x ∈ nxt s cov) => lft_nxt hs h
    have hL2 := nxt_len s cov
    rw [cntC_eq hs, if_neg hwh]
    clear hwh
    generalize nxt s cov = L at *
    generalize whl s = z at hW hb hw36
    go_enter Tryd.func106, Tryd.ntmps106
    go_wp2_with (first
      | (go_at_call 83; refine (hW.out _).mono ?_; rintro e w1 ⟨rfl, hb1⟩; have hm1 := hm.below hb1; have e01 := hm1.s0; have e11 := hm1.s1; have e21 := hm1.s2; have e31 := hm1.s3)
      | (go_at_call 107; refine (hNx.out _ hm1.tab).mono ?_; rintro e w2 ⟨A, c, rfl, hA, hb2, _⟩; have hm2 := hm1.below hb2))
    have hch0 : Chg (fun i => i = b) w w2 := (Chg.of_below hb1).then_below hb2
    have HLF := Lib.hid hlft
    have HMM := Lib.hid hmem
    have hsum : ∀ l : List Cd, (l.map fun x => cntC s (cov ||| und s x)).sum ≤ l.length * 137438953472 := fun l => by
      induction l with
      | nil => simp
      | cons x l ih => simp only [List.map_cons, List.sum_cons, List.length_cons]; have := cntC_le s (cov ||| und s x); omega
    have HSU := Lib.hid hsum
    have HWS := Lib.hid hm2
    clear hlft hmem hsum hm hm1 e0 e1 e2 e3 e01 e11 e21 e31 hNx hW hb
    go_loopw [6, 18] (fun v i wr => ∃ (k m' : Nat) (D' : DataW Unit), k ≤ L.length ∧ i = .int .i64 k ∧ v = .int .i64 (((L.take k).map fun x => cntC s (cov ||| und s x)).sum : Nat) ∧ MemoI s p b g wr m' D' ∧ m' + k ≤ m + k * N ∧ Chg (fun i => i = b) w2 wr) (fun _ i _ => L.length - (intOf i).toNat)
    case atStart => exact ⟨0, m, D, Nat.zero_le _, rfl, rfl, HWS.out, by omega, Chg.refl _ _⟩
    case round =>
      obtain ⟨k, m', D', hk, rfl, rfl, hmr, hle, hcr⟩ := hrel
      by_cases hlt : k < L.length
      · have hx : L[k]? = some L[k] := List.getElem?_eq_getElem hlt
        generalize L[k] = x at hx
        have hxm := mem_of_get hx
        obtain ⟨_, hfit, _⟩ := HMM.out x hxm
        have hlx := HLF.out x hxm
        have hts := take_snoc hx
        have hsk := HSU.out (L.take k)
        have hlk : (L.take k).length ≤ 2 := by rw [List.length_take]; omega
        have hcx := cntC_le s (cov ||| und s x)
        have hnext : (((L.take (k + 1)).map fun x => cntC s (cov ||| und s x)).sum) = ((L.take k).map fun x => cntC s (cov ||| und s x)).sum + cntC s (cov ||| und s x) := by rw [hts]; simp
        have hkN : k * N ≤ 1 * N := Nat.mul_le_mul_right N (by omega)
        have hkS : (k + 1) * N = k * N + N := Nat.succ_mul k N
        have hsx := Nat.mul_le_mul_right 137438953472 hlk
        have hin := hc.or hfit
        have hor := u64_or_nat cov (und s x) (by omega) (by have := und_lt36 hs hfit; omega)
        have HU := Lib.hid (fun W => under_any s x W hs hfit)
        have HI := Lib.hid (fun W (h : MemoI s p b g W m' D') => HO.out (cov ||| und s x) W m' D' (by omega) hin h (by omega))
        obtain ⟨b', off, rfl, hb', d0, d1, d2⟩ := hA k x hx
        replace d0 := (hcr.cell (p := ⟨b', _, none⟩) (lt_of_cell d0) (ne_of_map HWS.out.own d0)).trans d0
        replace d1 := (hcr.cell (p := ⟨b', _, none⟩) (lt_of_cell d1) (ne_of_map HWS.out.own d1)).trans d1
        replace d2 := (hcr.cell (p := ⟨b', _, none⟩) (lt_of_cell d2) (ne_of_map HWS.out.own d2)).trans d2
        have e0 := hmr.s0
        have e1 := hmr.s1
        have e2 := hmr.s2
        have e3 := hmr.s3
        have hgr := lt_of_cell e0
        generalize cntC s (cov ||| und s x) = q at HI hcx hnext
        generalize hS : ((L.take k).map fun x => cntC s (cov ||| und s x)).sum = S at hsk hnext
        have hS2 : S ≤ 274877906944 := by omega
        have HNX := Lib.hid hnext
        have HSS := Lib.hid hS
        have HKS := Lib.hid hkS
        clear hx hnext hts hS hkS hlx hxm hsx hin hA hfit hlk
        generalize und s x = y at HU hor HI
        go_wp2_with (first
          | (go_at_call 82; refine (HU.out _).mono ?_; rintro e w3 ⟨rfl, hb3⟩; have hm3 := (hmr.below (below_new _ _)).below hb3)
          | (go_at_call 69; refine (HI.out _ hm3).mono ?_; rintro e w4 ⟨rfl, m4, D4, hm4, hle4, hch4⟩))
        go_roundw
        case rel => exact ⟨k + 1, m4, D4, by omega, by go_num, by rw [HNX.out]; go_num, hm4, by rw [HKS.out]; omega, ((hcr.alloc _).then_below hb3).trans hch4 (fun _ _ h => h)⟩
        case measure => simp [intOf]; omega
      · have : k = L.length := by omega
        subst this
        have hkN : L.length * N + 2 ≤ 2 * N + L.length := by
          generalize L.length = q at hL2
          match q, hL2 with
          | 0, _ | 1, _ | 2, _ => omega
        rw [List.take_length]
        go_wp2
        go_ret
        exact ⟨rfl, m', D', hmr, by omega, hch0.trans hcr (fun _ _ h => h)⟩
end Go.Proofs.YtlollcabnfncpaaDoor
