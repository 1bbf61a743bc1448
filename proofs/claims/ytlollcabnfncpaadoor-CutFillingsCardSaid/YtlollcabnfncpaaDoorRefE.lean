/-
  The reference: lists of fillings in memory, and what is appended to them.
-/
import Derived.Test.YtlollcabnfncpaaDoorRefD
import Derived.Maps.AppendAt
namespace Go.Proofs.YtlollcabnfncpaaDoor
open Go.RowKit

theorem RcdsAt.chg {P : Nat → Prop} {w w' : World} {A : Option Addr} {l : List Cd} (h : RcdsAt w w.heap.size A l) (hc : Chg P w w') (hn : ∀ ad, A = some ad → ¬ P ad.block) : RcdsAt w' w'.heap.size A l := by
  intro k x hx
  obtain ⟨b, off, h1, h2, h3, h4, h5⟩ := h k x hx
  have hb := hn _ h1
  exact ⟨b, off, h1, Nat.lt_of_lt_of_le h2 hc.size, (hc.cell (p := ⟨b, off + k * 3, none⟩) h2 hb).trans h3, (hc.cell (p := ⟨b, off + k * 3 + 1, none⟩) h2 hb).trans h4, (hc.cell (p := ⟨b, off + k * 3 + 2, none⟩) h2 hb).trans h5⟩

theorem adr_add (b o j : Nat) : (⟨b, o, none⟩ : Addr).add j = ⟨b, o + j, none⟩ := by unfold Addr.add; split <;> simp_all

/-- The cells of cards in memory, one by one. -/
theorem rcds_news {w : World} {B : Nat} {A : Option Addr} {l : List Cd} (h : RcdsAt w B A l) (j : Nat) (u : Value) (hj : (rcdcells l)[j]? = some u) : ∃ ad, A = some ad ∧ w.cell? (ad.add j) = some u := by
  have hl : j < l.length * 3 := by rw [← rcdcells_len]; exact lt_of_get hj
  have hx : l[j / 3]? = some (l[j / 3]'(by omega)) := List.getElem?_eq_getElem _
  generalize l[j / 3]'(by omega) = x at hx
  obtain ⟨b, off, rfl, _, h3, h4, h5⟩ := h _ x hx
  obtain ⟨g3, g4, g5⟩ := rcdcells_get l _ x hx
  refine ⟨_, rfl, ?_⟩
  rw [adr_add]
  have hm : j = j / 3 * 3 ∨ j = j / 3 * 3 + 1 ∨ j = j / 3 * 3 + 2 := by omega
  generalize j / 3 = q at *
  rcases hm with rfl | rfl | rfl
  · rw [g3] at hj; rw [h3]; exact hj
  · rw [g4] at hj; rw [← Nat.add_assoc, h4]; exact hj
  · rw [g5] at hj; rw [← Nat.add_assoc, h5]; exact hj

theorem run_append_from_nil {P : Program} (w : World) (base : Nat) (t ty e : TypeId) (i : TypeInfo) (size : Nat) (ht : P.underlying t = some (.slice e)) (hi : P.info? e = some i)
    (v : Value) (n : Nat) (xs : List Value) (hown : w.ownsRow base e size v n xs) (c : Nat) : (Builtin.append_ #[t, t] ty #[v, .slice none 0 c]).run P w = .ok v w := by
  rcases hown.2 with ⟨rfl, rfl⟩ | ⟨g, cap, cur, rfl, _, _, hnc, _⟩
  · simp [Builtin.append_, run_underlying ht, sizeOf, typeInfo, hi, Builtin.lenOf, Builtin.firstCells]
  · simp [Builtin.append_, run_underlying ht, sizeOf, typeInfo, hi, Builtin.lenOf, Builtin.firstCells, hnc, storeCells]

/-- At a step of a region: whatever lies in a slice, it may be nil, is appended to a row of the call's own. -/
theorem step_append_src {P : Program} {ops : Array Oper} {o : Oper} {a : Act} {K : Act → World → Prop} {Q : Exit → Act → World → Prop} {E : Prop} (w : World) (hgd : o.guard = none) (s x : Operand) (t : TypeId)
    (ho : o.op = .call { callee := .builtin .append, args := #[s, x], argTypes := #[t, t] })
    (base : Nat) (e : TypeId) (i : TypeInfo) (z : Value) (size bytes : Nat) (ht : P.underlying t = some (.slice e)) (hi : P.info? e = some i) (hz : i.zero = some z)
    (hsize : i.size = size) (hby : i.bytes = bytes) (hzs : z.cells.size = size) (hsz : 0 < size)
    (v : Value) (n : Nat) (xs : List Value) (hs : a.eval s = v) (hown : w.ownsRow base e size v n xs)
    (A : Option Addr) (m c : Nat) (news : List Value) (hx : a.eval x = .slice A m c) (hl : news.length = m * size) (hnews : ∀ j u, news[j]? = some u → ∃ ad, A = some ad ∧ w.cell? (ad.add j) = some u) (h1 : ∀ u ∈ news, u.oneCell' = true)
    (h63 : n + m ≤ maxLen) (hbytes : (n + m) * bytes ≤ 140737488355328) (hbase : base ≤ w.heap.size)
    (h : ∀ v' w', w'.ownsRow base e size v' (n + m) (xs ++ news) → w.grownBy w' v.ownBlock → (v'.ownBlock = v.ownBlock ∨ v'.ownBlock = some w.heap.size) → K (a.put o.dst v') w') :
    if Region.wanted o (yielded ops a.tmps) = true then Oper.wp P o a w K Q else E := by
  have hw : Region.wanted o (yielded ops a.tmps) = true := by simp [Region.wanted, hgd]
  rw [if_pos hw]
  have hrun : ∃ v' w', (Builtin.append_ #[t, t] o.type #[v, .slice A m c]).run P w = .ok v' w' ∧ w'.ownsRow base e size v' (n + m) (xs ++ news) ∧ w.grownBy w' v.ownBlock ∧ (v'.ownBlock = v.ownBlock ∨ v'.ownBlock = some w.heap.size) := by
    rcases A with _ | ad
    · have hn : news = [] := by
        rcases news with _ | ⟨u, _⟩
        · rfl
        · obtain ⟨ad, h, _⟩ := hnews 0 u rfl
          cases h
      subst hn
      have hm : m = 0 := by
        rcases Nat.eq_zero_or_pos m with h0 | h0
        · exact h0
        · have := Nat.mul_pos h0 hsz
          simp at hl; omega
      subst hm
      exact ⟨v, w, run_append_from_nil w base t o.type e i size ht hi v n xs hown c, by simpa using hown, World.grownBy.refl w _, .inl rfl⟩
    · obtain ⟨v', w', h2, h3, h4, _, h5⟩ := run_append_own_at (P := P) w base t o.type e i z size bytes ht hi hz hsize hby hzs hsz v n xs hown ad m c news hl
        (fun j u hu => by obtain ⟨ad', h, h'⟩ := hnews j u hu; injection h with h; subst h; exact h') h1 h63 hbytes hbase
      exact ⟨v', w', h2, h3, h4, h5⟩
  obtain ⟨v', w', hrun, h2, h3, h4⟩ := hrun
  unfold Oper.wp execOp
  simp only [ho, resolve, invoke, builtin, Sem.run_bind, Sem.run_pure, Result.andThen_ok, List.map_toArray, List.map_cons, List.map_nil, hs, hx, hrun]
  exact h v' w' h2 h3 h4

/-- At a step of a region: cards are appended to cards of the call's own. -/
theorem step_append_rcds {ops : Array Oper} {o : Oper} {a : Act} {K : Act → World → Prop} {Q : Exit → Act → World → Prop} {E : Prop} (W : World) (hgd : o.guard = none) (s x : Operand)
    (ho : o.op = .call { callee := .builtin .append, args := #[s, x], argTypes := #[32, 32] }) (base k : Nat) (v : Value) (l m : List Cd) (hs : a.eval s = v) (hown : W.ownsRow base 99 3 v k (rcdcells l))
    (A : Option Addr) (c B : Nat) (hx : a.eval x = .slice A m.length c) (hA : RcdsAt W B A m) (hk : k + m.length < 1000000) (hbase : base ≤ W.heap.size)
    (h : ∀ v' w', w'.ownsRow base 99 3 v' (k + m.length) (rcdcells (l ++ m)) → W.grownBy w' v.ownBlock → (v'.ownBlock = v.ownBlock ∨ v'.ownBlock = some W.heap.size) → K (a.put o.dst v') w') :
    if Region.wanted o (yielded ops a.tmps) = true then Oper.wp Tryd.prog o a W K Q else E := by
  obtain ⟨i0, hi, hz0, hz1, hz2⟩ := info_parts info99
  refine step_append_src W hgd s x 32 ho base 99 i0 (.agg #[.int .i64 0, .int .i64 0, .bool false]) 3 24 Tryd.underlying32 hi hz0 hz1 hz2 rfl (by decide) v k (rcdcells l) hs hown A m.length c (rcdcells m) hx (rcdcells_len m) (rcds_news hA) ?_ (by unfold maxLen; omega) (by omega) hbase ?_
  · intro u hu
    obtain ⟨j, hj⟩ := List.getElem?_of_mem hu
    clear hu hs hx hown h hA hk
    induction m generalizing j with
    | nil => simp [rcdcells] at hj
    | cons y m ih =>
      rcases j with _ | _ | _ | j
      · simp [rcdcells] at hj; subst hj; rfl
      · simp [rcdcells] at hj; subst hj; rfl
      · simp [rcdcells] at hj; subst hj; rfl
      · exact ih j (by simpa [rcdcells] using hj)
  · intro v' w' h1 h2 h3
    exact h v' w' (by rw [rcdcells_append]; exact h1) h2 h3

/-- Values that are slices of cards, in blocks of which P holds. -/
def Sls (W : World) (P : Nat → Prop) : List Value → List (List Cd) → Prop
  | [], [] => True
  | v :: vs, x :: xs => (∃ A c, v = .slice A x.length c ∧ RcdsAt W W.heap.size A x ∧ ∀ ad, A = some ad → ad.block < W.heap.size ∧ P ad.block) ∧ Sls W P vs xs
  | _, _ => False
theorem Sls.chg {W W' : World} {P P' Q : Nat → Prop} (hc : Chg Q W W') (hn : ∀ i, i < W.heap.size → P i → ¬ Q i ∧ P' i) : ∀ {vs : List Value} {ls : List (List Cd)}, Sls W P vs ls → Sls W' P' vs ls
  | [], [], _ => trivial
  | _ :: _, _ :: _, ⟨⟨A, c, h1, h2, h3⟩, h4⟩ => ⟨⟨A, c, h1, h2.chg hc fun ad e => (hn _ (h3 ad e).1 (h3 ad e).2).1, fun ad e => ⟨Nat.lt_of_lt_of_le (h3 ad e).1 hc.size, (hn _ (h3 ad e).1 (h3 ad e).2).2⟩⟩, Sls.chg hc hn h4⟩
  | [], _ :: _, h => h.elim
  | _ :: _, [], h => h.elim
theorem Sls.imp {W : World} {P Q : Nat → Prop} (hp : ∀ i, P i → Q i) : ∀ {vs : List Value} {ls : List (List Cd)}, Sls W P vs ls → Sls W Q vs ls
  | [], [], _ => trivial
  | _ :: _, _ :: _, ⟨⟨A, c, h1, h2, h3⟩, h4⟩ => ⟨⟨A, c, h1, h2, fun ad e => ⟨(h3 ad e).1, hp _ (h3 ad e).2⟩⟩, Sls.imp hp h4⟩
  | [], _ :: _, h => h.elim
  | _ :: _, [], h => h.elim
theorem Sls.append {W : World} {P : Nat → Prop} {us : List Value} {ms : List (List Cd)} (k : Sls W P us ms) : ∀ {vs : List Value} {ls : List (List Cd)}, Sls W P vs ls → Sls W P (vs ++ us) (ls ++ ms)
  | [], [], _ => k
  | _ :: _, _ :: _, ⟨h, h4⟩ => ⟨h, Sls.append k h4⟩
  | [], _ :: _, h => h.elim
  | _ :: _, [], h => h.elim
theorem Sls.len {W : World} {P : Nat → Prop} : ∀ {vs : List Value} {ls : List (List Cd)}, Sls W P vs ls → vs.length = ls.length
  | [], [], _ => rfl
  | _ :: _, _ :: _, ⟨_, h4⟩ => by rw [List.length_cons, List.length_cons, Sls.len h4]
  | [], _ :: _, h => h.elim
  | _ :: _, [], h => h.elim
theorem Sls.one {W : World} {P : Nat → Prop} : ∀ {vs : List Value} {ls : List (List Cd)}, Sls W P vs ls → ∀ u ∈ vs, u.oneCell' = true
  | [], [], _ => fun u h => absurd h List.not_mem_nil
  | _ :: _, _ :: _, ⟨⟨A, c, h1, _⟩, h4⟩ => fun u hu => by
    rcases List.mem_cons.1 hu with e | hu
    · rw [e, h1]; rfl
    · exact Sls.one h4 u hu
  | [], _ :: _, h => h.elim
  | _ :: _, [], h => h.elim
theorem Sls.get {W : World} {P : Nat → Prop} : ∀ {vs : List Value} {ls : List (List Cd)}, Sls W P vs ls → ∀ {k : Nat} {x : List Cd}, ls[k]? = some x → ∃ A c, vs[k]? = some (.slice A x.length c) ∧ RcdsAt W W.heap.size A x ∧ ∀ ad, A = some ad → ad.block < W.heap.size ∧ P ad.block
  | [], [], _, _, _, h => by simp at h
  | v :: _, y :: _, ⟨⟨A, c, h1, h2, h3⟩, _⟩, 0, x, h => by
    have e : y = x := by simpa using h
    subst e
    exact ⟨A, c, by rw [h1]; rfl, h2, h3⟩
  | _ :: _, _ :: _, ⟨_, h4⟩, k + 1, x, h => by
    obtain ⟨A, c, h1, h2⟩ := Sls.get h4 (k := k) (x := x) (by simpa using h)
    exact ⟨A, c, by simpa using h1, h2⟩
  | [], _ :: _, h, _, _, _ => h.elim
  | _ :: _, [], h, _, _, _ => h.elim

/-- A list of fillings of the call's own. -/
def Out (B : Nat) (W : World) (v : Value) (ls : List (List Cd)) : Prop := ∃ vals, W.ownsRow B 32 1 v ls.length vals ∧ Sls W (fun i => B ≤ i ∧ v.ownBlock ≠ some i) vals ls
theorem Out.nil (B : Nat) (W : World) : Out B W (.slice none 0 0) [] := ⟨[], World.ownsRow_nil _ _ _ _, trivial⟩
theorem Out.below {B : Nat} {W W' : World} {v : Value} {ls : List (List Cd)} (h : Out B W v ls) (hb : Below W.heap.size W W') : Out B W' v ls := by
  obtain ⟨vals, h1, h2⟩ := h
  exact ⟨vals, own_below h1 hb, h2.chg (Chg.of_below (P := fun _ => False) hb) fun _ _ h => ⟨fun h => h, h⟩⟩

theorem info32 : (Tryd.prog.info? 32).map (fun i => (i.zero, i.size, i.bytes)) = some (some (.slice none 0 0), 1, 24) := by kernel_rfl

/-- At a step of a region: fillings are appended to those of the call's own. -/
theorem step_append_fils {ops : Array Oper} {o : Oper} {a : Act} {K : Act → World → Prop} {Q : Exit → Act → World → Prop} {E : Prop} (W : World) (hgd : o.guard = none) (s x : Operand)
    (ho : o.op = .call { callee := .builtin .append, args := #[s, x], argTypes := #[96, 96] }) (B : Nat) (v : Value) (ls ms : List (List Cd)) (hs : a.eval s = v) (hO : Out B W v ls)
    (A : Option Addr) (c : Nat) (vals : List Value) (hx : a.eval x = .slice A ms.length c) (hc : ∀ j u, vals[j]? = some u → ∃ ad, A = some ad ∧ W.cell? (ad.add j) = some u)
    (hS : Sls W (fun i => B ≤ i ∧ v.ownBlock ≠ some i) vals ms) (hk : ls.length + ms.length < 1000000) (hbase : B ≤ W.heap.size)
    (h : ∀ v' w', Out B w' v' (ls ++ ms) → Below B W w' → (∀ i off, i < W.heap.size → v.ownBlock ≠ some i → w'.cell? ⟨i, off, none⟩ = W.cell? ⟨i, off, none⟩) → K (a.put o.dst v') w') :
    if Region.wanted o (yielded ops a.tmps) = true then Oper.wp Tryd.prog o a W K Q else E := by
  obtain ⟨i0, hi, hz0, hz1, hz2⟩ := info_parts info32
  obtain ⟨us, h1, h2⟩ := hO
  refine step_append_src W hgd s x 96 ho B 32 i0 (.slice none 0 0) 1 24 Tryd.underlying96 hi hz0 hz1 hz2 rfl (by decide) v ls.length us hs h1 A ms.length c vals hx (by rw [hS.len, Nat.mul_one]) hc hS.one (by unfold maxLen; omega) (by omega) hbase ?_
  intro v' w' k1 k2 k3
  have hlt := h1.lt
  refine h v' w' ⟨us ++ vals, by rw [List.length_append]; exact k1, ?_⟩ ((Below.refl _ _).grown k2 hbase fun g hg => (hlt g hg).1) (fun i off hi hne => (Chg.of_grown k2).cell (p := ⟨i, off, none⟩) hi fun e => hne e.symm)
  have hnew : ∀ {vs : List Value} {xs : List (List Cd)}, Sls W (fun i => B ≤ i ∧ v.ownBlock ≠ some i) vs xs → Sls w' (fun i => B ≤ i ∧ v'.ownBlock ≠ some i) vs xs := fun hh => hh.chg (Chg.of_grown k2) fun i hi hp => ⟨fun e => hp.2 e.symm, hp.1, by
    rcases k3 with e | e
    · rw [e]; exact hp.2
    · rw [e]; intro h; injection h; omega⟩
  exact (hnew hS).append (hnew h2)
end Go.Proofs.YtlollcabnfncpaaDoor
