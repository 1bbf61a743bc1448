/-
  The search for a filling that is wanted: the walk.
-/
import Derived.Test.YtlollcabnfncpaaDoorSrcA
namespace Go.Proofs.YtlollcabnfncpaaDoor
open Go.RowKit Go.Maps

/-- What the search leaves: a filling that is wanted, or the list as it was. -/
def RetLay (s : Sh) (Z : LP) (fw : Value) (w : World) (v : Value) (pre : List Cd) (r : Option (List Cd)) (e : Ending) (w' : World) : Prop :=
  e = .returned (.bool r.isSome) ∧ ∃ v' D', LayI s Z fw w' D' v' (r.getD pre) ∧ NewOr w.heap.size v.ownBlock v'.ownBlock ∧ Chg (fun i => (i = Z.b ∨ i = Z.gl) ∨ some i = v.ownBlock) w w'

def LaySpec (s : Sh) (Z : LP) (fw : Value) (q : List Cd → Bool) (n : Nat) : Prop := ∀ (cov : Nat) (pre : List Cd) (w : World) (D : DataW Unit) (v : Value), lft s cov < n → InS s cov → (∀ x ∈ pre, fitP s x) → pre.length + lft s cov ≤ 36 → LayI s Z fw w D v pre →
  Calls Tryd.prog 128 #[.int .u64 cov, .pointer (some ⟨Z.gs, 0, none⟩), .pointer (some ⟨Z.gw, 0, none⟩), .pointer (some ⟨Z.gl, 0, none⟩), .pointer (some ⟨Z.gc, 0, none⟩), .pointer (some ⟨Z.gy, 0, none⟩)] w
    (RetLay s Z fw w v pre ((filC s cov pre).find? q))

/-- What is asked of a function that says which fillings are wanted. -/
def Wanted (s : Sh) (Z : LP) (k : Nat) (caps : Array Value) (q : List Cd → Bool) : Prop := ∀ (W : World) (A : Option Addr) (c : Nat) (l : List Cd),
  W.cell? ⟨Z.gz, 0, none⟩ = some (.int .i64 s.r) → W.cell? ⟨Z.gz, 1, none⟩ = some (.int .i64 s.c) → W.cell? ⟨Z.gz, 2, none⟩ = some (.int .i64 s.l) → W.cell? ⟨Z.gz, 3, none⟩ = some (.int .i64 s.w) →
  CardsAt W W.heap.size A l → (∀ x ∈ l, fitP s x) → l.length ≤ 36 →
  Calls Tryd.prog k (#[.slice A l.length c] ++ caps) W fun e w' => e = .returned (.bool (q l)) ∧ Below W.heap.size W w'

set_option maxRecDepth 100000 in
set_option maxHeartbeats 2000000 in
/-- A filling is complete: is it wanted? -/
theorem lay_whole66 (s : Sh) (Z : LP) (q : List Cd → Bool) (hs : s.Ok) (hq : Wanted s Z 66 #[] q) (cov : Nat) (pre : List Cd) (w : World) (D : DataW Unit) (v : Value) (hwh : cov = whl s) (hp : ∀ x ∈ pre, fitP s x) (hlen : pre.length ≤ 36)
    (hI : LayI s Z (.func (.func 66) #[] #[]) w D v pre) :
    Calls Tryd.prog 128 #[.int .u64 cov, .pointer (some ⟨Z.gs, 0, none⟩), .pointer (some ⟨Z.gw, 0, none⟩), .pointer (some ⟨Z.gl, 0, none⟩), .pointer (some ⟨Z.gc, 0, none⟩), .pointer (some ⟨Z.gy, 0, none⟩)] w
      (RetLay s Z (.func (.func 66) #[] #[]) w v pre ((filC s cov pre).find? q)) := by
  have hW := Lib.hid (fun W => whole_any s W hs)
  have hw36 := whl_lt36 hs
  have e0 := hI.s0
  have e1 := hI.s1
  have e2 := hI.s2
  have e3 := hI.s3
  have hb : ((cov : Int) == (whl s : Int)) = true := by rw [beq_iff_eq, hwh]
  have hv : (filC s cov pre).find? q = if q pre then some pre else none := by
    rw [filC_eq hs, if_pos hwh, List.find?_cons]
    rcases q pre <;> rfl
  obtain ⟨A, c, rfl, hA, _⟩ := own_cards hI.lo
  have hc36 : cov < 68719476736 := by rw [hwh]; exact hw36
  generalize hR : (filC s cov pre).find? q = R at hv ⊢
  have HV := Lib.hid hv
  clear hv hwh hR
  have HQ := Lib.hid (fun W (h : Below w.heap.size w W) => hq W A c pre ((h.cell (lt_of_cell hI.z0)).trans hI.z0) ((h.cell (lt_of_cell hI.z1)).trans hI.z1) ((h.cell (lt_of_cell hI.z2)).trans hI.z2) ((h.cell (lt_of_cell hI.z3)).trans hI.z3) (hA.up h) hp hlen)
  have e4 := hI.lv
  have e5 := hI.fn
  have hz4 := lt_of_cell e4
  have hz5 := lt_of_cell e5
  generalize whl s = z at hW hb hw36
  go_enter Tryd.func128, Tryd.ntmps128
  go_wp2_with (first
    | (go_at_call 83; refine (hW.out _).mono ?_; rintro e w1 ⟨rfl, hb1⟩; obtain ⟨q1, q2, q3⟩ := bcell hb1)
    | (go_at_call 66; refine (HQ.out _ hb1).mono ?_; rintro e w2 ⟨rfl, hb2⟩))
  go_ret
  refine ⟨?_, .slice A pre.length c, D, ?_, .inl rfl, Chg.of_below (below_then hb1 hb2)⟩
  · rw [HV.out]; rcases q pre <;> rfl
  · have := hI.below (below_then hb1 hb2)
    rw [HV.out]
    rcases q pre <;> exact this

theorem NewOr.low {n n' : Nat} {r r' : Option Nat} (h : NewOr n r r') (hn : n' ≤ n) : NewOr n' r r' := by
  rcases h with h | ⟨k, h, hk⟩
  · exact .inl h
  · exact .inr ⟨k, h, by omega⟩
theorem LayI.slice {s : Sh} {Z : LP} {fw : Value} {w : World} {D : DataW Unit} {v : Value} {pre : List Cd} {x : Cd} (h : LayI s Z fw w D v (pre ++ [x])) : ∃ A c, v = .slice A (pre.length + 1) c ∧ pre.length ≤ c := by
  have hl : (pre ++ [x]).length = pre.length + 1 := by rw [List.length_append, List.length_singleton]
  rcases h.lo.2 with ⟨_, h0⟩ | ⟨g, cap, cur, e, _, _, h3, _⟩
  · exact absurd h0 (by omega)
  · exact ⟨_, cap, by rw [e, hl], by omega⟩

/-- Behind an append to the list, ahead of the store of the new list. -/
theorem LayI.grown {s : Sh} {Z : LP} {fw : Value} {w w' : World} {D : DataW Unit} {v : Value} {pre : List Cd} (h : LayI s Z fw w D v pre) (hg : w.grownBy w' v.ownBlock) :
    (w'.cell? ⟨Z.gl, 0, none⟩ = some v ∧ w'.frozen? ⟨Z.gl, 0, none⟩ = false) ∧ w'.cell? ⟨Z.gy, 0, none⟩ = some (.func (.func 128) #[] #[.pointer (some ⟨Z.gs, 0, none⟩), .pointer (some ⟨Z.gw, 0, none⟩), .pointer (some ⟨Z.gl, 0, none⟩), .pointer (some ⟨Z.gc, 0, none⟩), .pointer (some ⟨Z.gy, 0, none⟩)]) ∧ Z.gl < w'.heap.size ∧ Z.gy < w'.heap.size ∧ ¬ Z.gy = Z.gl := by
  have hgl := lt_of_cell h.lv
  have hrow : ∀ i, some i = v.ownBlock → Z.base ≤ i := fun i e => (h.lo.lt i e.symm).1
  have hb := h.lb
  have hgy := h.old Z.gy (by simp)
  have hn : ¬ some Z.gl = v.ownBlock := fun e => by have := hrow _ e; omega
  have hn2 : ¬ some Z.gy = v.ownBlock := fun e => by have := hrow _ e; omega
  have c := Chg.of_grown hg
  have hs := c.size
  have hbs := h.bs
  exact ⟨⟨(c.cell (p := ⟨Z.gl, 0, none⟩) hgl hn).trans h.lv, (c.frozen (p := ⟨Z.gl, 0, none⟩) hgl hn).trans h.lf⟩, (c.cell (p := ⟨Z.gy, 0, none⟩) (lt_of_cell h.fy) hn2).trans h.fy, by omega, by omega, hgy.2⟩
/-- The variable that holds the card of the round. -/
theorem keep_card {wr w3 w4 : World} {zb : Nat} {x : Cd} (hb3 : Below (wr.alloc (.cells #[.int .i64 x.row, .int .i64 x.col, .bool x.t] 69)).heap.size (wr.alloc (.cells #[.int .i64 x.row, .int .i64 x.col, .bool x.t] 69)) w3) (hch4 : Chg (fun i => i = zb) w3 w4) (hz : zb < wr.heap.size) :
    (w4.cell? ⟨wr.heap.size, 0, none⟩ = some (.int .i64 x.row) ∧ w4.cell? ⟨wr.heap.size, 1, none⟩ = some (.int .i64 x.col) ∧ w4.cell? ⟨wr.heap.size, 2, none⟩ = some (.bool x.t)) ∧ wr.heap.size < w4.heap.size := by
  have h1 := hb3.size
  have h2 := hch4.size
  rw [World.size_alloc] at h1
  have c := fun o => (hch4.cell (p := ⟨wr.heap.size, o, none⟩) (by simp only; omega) (by simp only; omega)).trans (hb3.cell (p := ⟨wr.heap.size, o, none⟩) (by simp))
  exact ⟨⟨(c 0).trans (by simp [go_sem]), (c 1).trans (by simp [go_sem]), (c 2).trans (by simp [go_sem])⟩, by omega⟩

set_option maxRecDepth 100000 in
set_option maxHeartbeats 4000000 in
theorem lay_more (s : Sh) (Z : LP) (fw : Value) (q : List Cd → Bool) (n : Nat) (hs : s.Ok) (ih : LaySpec s Z fw q n) (cov : Nat) (pre : List Cd) (w : World) (D : DataW Unit) (v : Value) (hwh : cov ≠ whl s) (hl : lft s cov < n + 1) (hc : InS s cov)
    (hp : ∀ x ∈ pre, fitP s x) (hlen : pre.length + lft s cov ≤ 36) (hI : LayI s Z fw w D v pre) :
    Calls Tryd.prog 128 #[.int .u64 cov, .pointer (some ⟨Z.gs, 0, none⟩), .pointer (some ⟨Z.gw, 0, none⟩), .pointer (some ⟨Z.gl, 0, none⟩), .pointer (some ⟨Z.gc, 0, none⟩), .pointer (some ⟨Z.gy, 0, none⟩)] w
      (RetLay s Z fw w v pre ((filC s cov pre).find? q)) := by
  have hW := Lib.hid (fun W => whole_any s W hs)
  have hc36 := hc.lt36 hs
  have hw36 := whl_lt36 hs
  have e0 := hI.s0
  have e1 := hI.s1
  have e2 := hI.s2
  have e3 := hI.s3
  have hb : ((cov : Int) == (whl s : Int)) = false := by simp; omega
  have hNx := Lib.hid (fun W h => next_any s cov W hs hc hwh h)
  have hmem := fun x (h : x ∈ nxt s cov) => mem_nxt h
  have hlft := fun x (h : x ∈ nxt s cov) => lft_nxt hs h
  have hL2 := nxt_len s cov
  have hv : (filC s cov pre).find? q = ((nxt s cov).flatMap fun x => filC s (cov ||| und s x) (pre ++ [x])).find? q := by rw [filC_eq hs, if_neg hwh]
  generalize hR : (filC s cov pre).find? q = R at hv ⊢
  clear hwh hR
  generalize nxt s cov = L at *
  generalize whl s = z at hW hb hw36
  have HV := Lib.hid hv
  have HLF := Lib.hid hlft
  have HMM := Lib.hid hmem
  have HIH := Lib.hid ih
  have HP := Lib.hid hp
  have hgl := lt_of_cell e0
  have HRW := Lib.hid (fun g => hI.lo.lt g)
  have hbase := hI.bs
  have hglb := hI.lb
  clear hv hlft hmem ih hp
  go_enter Tryd.func128, Tryd.ntmps128
  go_wp2_with (first
    | (go_at_call 83; refine (hW.out _).mono ?_; rintro e w1 ⟨rfl, hb1⟩; have hI1 := hI.below hb1; have e01 := hI1.s0; have e11 := hI1.s1; have e21 := hI1.s2; have e31 := hI1.s3)
    | (go_at_call 107; refine (hNx.out _ hI1.memo.tab).mono ?_; rintro e w2 ⟨A, c, rfl, hA, hb2, hAn⟩; have hI2 := hI1.below hb2))
  have hbb := below_then hb1 hb2
  have hsz12 := hb1.size
  have HAN := Lib.hid hAn
  have HW2 := Lib.hid hI2
  clear e0 e1 e2 e3 e01 e11 e21 e31 hNx hW hb hI hI1 hI2 hAn
  go_loopw [22] (fun i wr => ∃ (k : Nat) (vr : Value) (Dr : DataW Unit), k ≤ L.length ∧ i = .int .i64 k ∧ LayI s Z fw wr Dr vr pre ∧ NewOr w2.heap.size v.ownBlock vr.ownBlock ∧ Chg (fun i => (i = Z.b ∨ i = Z.gl) ∨ some i = v.ownBlock) w2 wr ∧
    Hid (∀ y ∈ L.take k, (filC s (cov ||| und s y) (pre ++ [y])).find? q = none)) (fun i _ => L.length - (intOf i).toNat)
  case atStart => exact ⟨0, v, D, Nat.zero_le _, rfl, HW2.out, .inl rfl, Chg.refl _ _, Lib.hid (fun y hy => by simp at hy)⟩
  case round =>
    obtain ⟨k, vr, Dr, hk, rfl, hIr, hnr, hcr, HN⟩ := hrel
    have HNR := Lib.hid hnr
    clear hnr
    by_cases hlt : k < L.length
    · have hx : L[k]? = some L[k] := List.getElem?_eq_getElem hlt
      generalize L[k] = x at hx
      have hxm := mem_of_get hx
      obtain ⟨_, hfit, _⟩ := HMM.out x hxm
      have hlx := HLF.out x hxm
      have HTS := Lib.hid (take_snoc hx)
      have HX := Lib.hid hx
      have hin := hc.or hfit
      have hor := u64_or_nat cov (und s x) (by omega) (by have := und_lt36 hs hfit; omega)
      have HU := Lib.hid (fun W => under_any s x W hs hfit)
      obtain ⟨b', off, hAe, hb', d0, d1, d2⟩ := hA k x hx
      have hbn : w.heap.size ≤ b' := by have := HAN.out _ hAe; simp at this; omega
      have hnb : ¬ ((b' = Z.b ∨ b' = Z.gl) ∨ some b' = v.ownBlock) := by
        have h1 := ne_of_map HW2.out.memo.own d0
        rintro ((h | h) | h)
        · exact h1 h
        · omega
        · have := (HRW.out _ h.symm).2; omega
      subst hAe
      replace d0 := (hcr.cell (p := ⟨b', _, none⟩) (lt_of_cell d0) hnb).trans d0
      replace d1 := (hcr.cell (p := ⟨b', _, none⟩) (lt_of_cell d1) hnb).trans d1
      replace d2 := (hcr.cell (p := ⟨b', _, none⟩) (lt_of_cell d2) hnb).trans d2
      have e0 := hIr.s0
      have e1 := hIr.s1
      have e2 := hIr.s2
      have e3 := hIr.s3
      have e4 := hIr.pc
      have hgr := lt_of_cell e0
      have hgc := lt_of_cell e4
      have HC := Lib.hid (fun W (h : LayI s Z fw W Dr vr pre) => of37 s Z.p Z.b Z.g (cov ||| und s x) 68719476736 Dr W hs hin h.memo (by omega))
      have hcl := cntC_len s (cov ||| und s x) (pre ++ [x])
      have hq64 := cntC_le s (cov ||| und s x)
      by_cases hz : cntC s (cov ||| und s x) = 0
      · have hnil : (filC s (cov ||| und s x) (pre ++ [x])).find? q = none := by rw [hz] at hcl; rw [List.eq_nil_of_length_eq_zero hcl]; rfl
        rw [hz] at HC
        have HNI := Lib.hid hnil
        clear hx hxm hlx hin hfit hcl hq64 hz hnil
        generalize hy : und s x = y at HU hor HC
        have HY := Lib.hid hy
        clear hy
        go_wp2_with (first
          | (go_at_call 82; refine (HU.out _).mono ?_; rintro e w3 ⟨rfl, hb3⟩; have hI3 := (hIr.below (below_new _ _)).below hb3; have e43 := hI3.pc)
          | (go_at_call 69; refine (HC.out _ hI3).mono ?_; rintro e w4 ⟨rfl, m4, D4, hm4, hle4, hch4⟩))
        go_roundw
        case rel => exact ⟨k + 1, vr, D4, by omega, by go_num, hI3.asked hm4 hch4, HNR.out, hcr.trans (((Chg.refl (fun i => (i = Z.b ∨ i = Z.gl) ∨ some i = v.ownBlock) _).alloc _).then_below hb3 |>.trans hch4 (fun _ _ h => .inl (.inl h))) (fun _ _ h => h), Lib.hid (fun y hy => by
          rw [HTS.out] at hy
          rcases List.mem_append.1 hy with hy | hy
          · exact HN.out y hy
          · rw [List.mem_singleton] at hy; rw [hy]; exact HNI.out)⟩
        case measure => simp [intOf]; omega
      · have hne : ((cntC s (cov ||| und s x) : Int) == 0) = false := by simp; omega
        have HI7 := Lib.hid (fun W D4 v5 (h : LayI s Z fw W D4 v5 (pre ++ [x])) => HIH.out (cov ||| und s x) (pre ++ [x]) W D4 v5 (by omega) hin (by
          intro y hy
          rcases List.mem_append.1 hy with hy | hy
          · exact HP.out y hy
          · rw [List.mem_singleton] at hy; rw [hy]; exact hfit) (by rw [List.length_append, List.length_singleton]; omega) h)
        generalize hR7 : (filC s (cov ||| und s x) (pre ++ [x])).find? q = R7 at HI7
        have HR7 := Lib.hid hR7
        generalize cntC s (cov ||| und s x) = qn at HC hq64 hne
        clear hx hxm hlx hin hfit hcl hz hR7
        generalize hy : und s x = y at HU hor HC HI7
        have HY := Lib.hid hy
        clear hy
        have hpl : pre.length ≤ 36 := by omega
        have hzb : Z.b < wr.heap.size := by have := (hIr.old Z.b (by simp)).1; have := hIr.bs; omega
        rcases R7 with _ | r
        ·
          go_wp2_with (first
            | (go_at_call 82; refine (HU.out _).mono ?_; rintro e w3 ⟨rfl, hb3⟩; have hI3 := (hIr.below (below_new _ _)).below hb3; have e43 := hI3.pc)
            | (go_at_call 69; refine (HC.out _ hI3).mono ?_; rintro e w4 ⟨rfl, m4, D4, hm4, hle4, hch4⟩; have hI4 := hI3.asked hm4 hch4; have e54 := hI4.lv; have hz54 := lt_of_cell e54; obtain ⟨⟨k0, k1, k2⟩, hz4⟩ := keep_card hb3 hch4 hzb)
            | (at_builtin; refine wpList_append_card _ rfl _ _ rfl Z.base pre.length _ vr pre x rfl (hI4.below (below_new _ _)).lo rfl (heap_at _ _ _ rfl) (by omega) (by have := hI4.bs; simp; omega) ?_; intro A5 c5 w5 hown5 hgr5 hob5; have HOB := Lib.hid hob5; clear hob5; have HCG := Lib.hid hgr5; obtain ⟨hI6, hch6⟩ := (hI4.below (below_new _ _)).push hgr5 hown5; obtain ⟨⟨k3, k4⟩, k5, k6, k7, k8⟩ := (hI4.below (below_new _ _)).grown hgr5)
            | (go_at_call 128; refine (HI7.out _ _ _ hI6).mono ?_; rintro e w7 ⟨rfl, v7, D7, hI7, hn7, hch7⟩; obtain ⟨A7, c7, rfl, hc7⟩ := hI7.slice; have e57 := hI7.lv; have f57 := hI7.lf; have hz57 := lt_of_cell e57))
          go_roundw
          have hsz2 := hcr.size
          have hsz3 := hz4
          have hno : NewOr w2.heap.size v.ownBlock (Value.slice A5 (pre.length + 1) c5).ownBlock := HNR.out.trans (n' := w2.heap.size) (by
            rcases HOB.out with h | h
            · exact .inl h
            · exact .inr ⟨_, h, by simp; omega⟩) (Nat.le_refl _)
          have hch26 := hcr.row (r' := vr.ownBlock) ((((Chg.refl (fun i => (i = Z.b ∨ i = Z.gl) ∨ some i = vr.ownBlock) wr).alloc _).then_below hb3).trans hch4 (fun _ _ h => .inl (.inl h)) |>.alloc _ |>.trans hch6 (fun _ _ h => by
            rcases h with h | h
            · exact .inl (.inr h)
            · exact .inr h)) HNR.out
          have hch27 := hch26.row hch7 hno
          have hlt6 : w2.heap.size ≤ (w5.setCell ⟨Z.gl, 0, none⟩ (.slice A5 (pre.length + 1) c5)).heap.size := hch26.size
          have hI7' : LayI s Z fw w7 D7 (.slice A7 (pre.length + 1) c7) (pre ++ [x]) := hI7
          obtain ⟨hI8, hch8⟩ := hI7'.pop
          case rel => exact ⟨k + 1, .slice A7 pre.length c7, D7, by omega, by go_num, hI8, (show NewOr w2.heap.size v.ownBlock (Value.slice A7 pre.length c7).ownBlock by
            have h9 := hno.trans hn7 hlt6
            rcases A7 with _ | A7 <;> exact h9), hch27.trans hch8 (fun _ _ h => .inl (.inr h)), Lib.hid (fun y hy => by
            rw [HTS.out] at hy
            rcases List.mem_append.1 hy with hy | hy
            · exact HN.out y hy
            · rw [List.mem_singleton] at hy; rw [hy]; exact HR7.out)⟩
          case measure => simp [intOf]; omega
        ·
          go_wp2_with (first
            | (go_at_call 82; refine (HU.out _).mono ?_; rintro e w3 ⟨rfl, hb3⟩; have hI3 := (hIr.below (below_new _ _)).below hb3; have e43 := hI3.pc)
            | (go_at_call 69; refine (HC.out _ hI3).mono ?_; rintro e w4 ⟨rfl, m4, D4, hm4, hle4, hch4⟩; have hI4 := hI3.asked hm4 hch4; have e54 := hI4.lv; have hz54 := lt_of_cell e54; obtain ⟨⟨k0, k1, k2⟩, hz4⟩ := keep_card hb3 hch4 hzb)
            | (at_builtin; refine wpList_append_card _ rfl _ _ rfl Z.base pre.length _ vr pre x rfl (hI4.below (below_new _ _)).lo rfl (heap_at _ _ _ rfl) (by omega) (by have := hI4.bs; simp; omega) ?_; intro A5 c5 w5 hown5 hgr5 hob5; have HOB := Lib.hid hob5; clear hob5; have HCG := Lib.hid hgr5; obtain ⟨hI6, hch6⟩ := (hI4.below (below_new _ _)).push hgr5 hown5; obtain ⟨⟨k3, k4⟩, k5, k6, k7, k8⟩ := (hI4.below (below_new _ _)).grown hgr5)
            | (go_at_call 128; refine (HI7.out _ _ _ hI6).mono ?_; rintro e w7 ⟨rfl, v7, D7, hI7, hn7, hch7⟩; have e57 := hI7.lv; have hz57 := lt_of_cell e57))
          go_ret
          have hsz2 := hcr.size
          have hsz3 := hz4
          have hno : NewOr w2.heap.size v.ownBlock (Value.slice A5 (pre.length + 1) c5).ownBlock := HNR.out.trans (n' := w2.heap.size) (by
            rcases HOB.out with h | h
            · exact .inl h
            · exact .inr ⟨_, h, by simp; omega⟩) (Nat.le_refl _)
          have hch26 := hcr.row (r' := vr.ownBlock) ((((Chg.refl (fun i => (i = Z.b ∨ i = Z.gl) ∨ some i = vr.ownBlock) wr).alloc _).then_below hb3).trans hch4 (fun _ _ h => .inl (.inl h)) |>.alloc _ |>.trans hch6 (fun _ _ h => by
            rcases h with h | h
            · exact .inl (.inr h)
            · exact .inr h)) HNR.out
          have hch27 := hch26.row hch7 hno
          have hlt6 : w2.heap.size ≤ (w5.setCell ⟨Z.gl, 0, none⟩ (.slice A5 (pre.length + 1) c5)).heap.size := hch26.size
          have hR : R = some r := by rw [HV.out]; exact find_flat q _ L k x r HX.out HN.out HR7.out
          refine ⟨by rw [hR]; rfl, v7, D7, by rw [hR]; exact hI7, (hno.low hbb.size).trans hn7 (Nat.le_trans hbb.size hlt6), (Chg.of_below hbb).trans hch27 (fun _ _ h => h)⟩
    · have : k = L.length := by omega
      subst this
      have hnone : R = none := by
        rw [HV.out]
        refine find_flat_none q _ L fun y hy => HN.out y ?_
        rw [List.take_length]; exact hy
      go_wp2
      go_ret
      refine ⟨by rw [hnone]; rfl, vr, Dr, by rw [hnone]; exact hIr, HNR.out.trans (.inl rfl) (Nat.le_refl _) |> fun h => ?_, ?_⟩
      · rcases h with h | ⟨g, h, hg⟩
        · exact .inl h
        · exact .inr ⟨g, h, Nat.le_trans hbb.size hg⟩
      · exact (Chg.of_below hbb).trans hcr (fun _ _ h => h)

theorem lay_step66 (s : Sh) (Z : LP) (q : List Cd → Bool) (n : Nat) (hs : s.Ok) (hq : Wanted s Z 66 #[] q) (ih : LaySpec s Z (.func (.func 66) #[] #[]) q n) : LaySpec s Z (.func (.func 66) #[] #[]) q (n + 1) := by
  intro cov pre w D v hl hc hp hlen hI
  by_cases hwh : cov = whl s
  · exact lay_whole66 s Z q hs hq cov pre w D v hwh hp (by omega) hI
  · exact lay_more s Z _ q n hs ih cov pre w D v hwh hl hc hp hlen hI
theorem lay_any66 (s : Sh) (Z : LP) (q : List Cd → Bool) (hs : s.Ok) (hq : Wanted s Z 66 #[] q) : ∀ n, LaySpec s Z (.func (.func 66) #[] #[]) q n
  | 0 => fun _ _ _ _ _ hl => absurd hl (Nat.not_lt_zero _)
  | n + 1 => lay_step66 s Z q n hs hq (lay_any66 s Z q hs hq n)
end Go.Proofs.YtlollcabnfncpaaDoor
