/-
  Appends at a step of a region that draws its order; lists of lists behind stores elsewhere.
-/
import Derived.Test.YtbcbaaapogejiaaDoorBase
import Derived.Deep.RegionHeld3
import Derived.Maps.AppendAt
namespace Go.Proofs.YtbcbaaapogejiaaDoor
open Go.RowKit

theorem run_append_from_nil {P : Program} (w : World) (base : Nat) (t ty e : TypeId) (i : TypeInfo) (size : Nat) (ht : P.underlying t = some (.slice e)) (hi : P.info? e = some i)
    (v : Value) (n : Nat) (xs : List Value) (hown : w.ownsRow base e size v n xs) (c : Nat) : (Builtin.append_ #[t, t] ty #[v, .slice none 0 c]).run P w = .ok v w := by
  rcases hown.2 with ⟨rfl, rfl⟩ | ⟨g, cap, cur, rfl, _, _, hnc, _⟩
  · simp [Builtin.append_, run_underlying ht, sizeOf, typeInfo, hi, Builtin.lenOf, Builtin.firstCells]
  · simp [Builtin.append_, run_underlying ht, sizeOf, typeInfo, hi, Builtin.lenOf, Builtin.firstCells, hnc, storeCells]

/-- At a step of a region: whatever lies in a slice, it may be nil, is appended to a row of the call's own. -/
theorem step_append_src {P : Program} {ops : Array Oper} {o : Oper} {a : Act} {K : Act → World → Prop} {Q : Exit → Act → World → Prop} {E : Prop} (w : World) (hgd : o.guard = none) (s x : Operand) (t : TypeId)
    (ho : o.op = .call { callee := .builtin .append, args := #[s, x], argTypes := #[t, t] })
    (base : Nat) (e : TypeId) (i : TypeInfo) (z : Value) (size bytes : Nat) (ht : P.underlying t = some (.slice e)) (hi : P.info? e = some i) (hz : i.zero = some z)
    (hsize : i.size = size) (hby : i.bytes = bytes) (hzs : z.cells.size = size) (hsz : 0 < size)
    (v : Value) (n : Nat) (xs : List Value) (hs : a.eval s = v) (hown : w.ownsRow base e size v n xs)
    (A : Option Addr) (m c : Nat) (news : List Value) (hx : a.eval x = .slice A m c) (hl : news.length = m * size) (hnews : ∀ j u, news[j]? = some u → ∃ ad, A = some ad ∧ w.cell? (ad.add j) = some u) (h1 : ∀ u ∈ news, u.oneCell' = true)
    (h63 : n + m ≤ maxLen) (hbytes : (n + m) * bytes ≤ 140737488355328) (hbase : base ≤ w.heap.size)
    (h : ∀ v' w', w'.ownsRow base e size v' (n + m) (xs ++ news) → w.grownBy w' v.ownBlock → (v'.ownBlock = v.ownBlock ∨ v'.ownBlock = some w.heap.size) → K (a.put o.dst v') w') :
    if Region.wanted o (yielded ops a.tmps) = true then Oper.wp P o a w K Q else E := by
  have hw : Region.wanted o (yielded ops a.tmps) = true := by simp [Region.wanted, hgd]
  rw [if_pos hw]
  have hrun : ∃ v' w', (Builtin.append_ #[t, t] o.type #[v, .slice A m c]).run P w = .ok v' w' ∧ w'.ownsRow base e size v' (n + m) (xs ++ news) ∧ w.grownBy w' v.ownBlock ∧ (v'.ownBlock = v.ownBlock ∨ v'.ownBlock = some w.heap.size) := by
    rcases A with _ | ad
    · have hn : news = [] := by
        rcases news with _ | ⟨u, _⟩
        · rfl
        · obtain ⟨ad, h, _⟩ := hnews 0 u rfl
          cases h
      subst hn
      have hm : m = 0 := by
        rcases Nat.eq_zero_or_pos m with h0 | h0
        · exact h0
        · have := Nat.mul_pos h0 hsz
          simp at hl; omega
      subst hm
      exact ⟨v, w, run_append_from_nil w base t o.type e i size ht hi v n xs hown c, by simpa using hown, World.grownBy.refl w _, .inl rfl⟩
    · obtain ⟨v', w', h2, h3, h4, _, h5⟩ := run_append_own_at (P := P) w base t o.type e i z size bytes ht hi hz hsize hby hzs hsz v n xs hown ad m c news hl
        (fun j u hu => by obtain ⟨ad', h, h'⟩ := hnews j u hu; injection h with h; subst h; exact h') h1 h63 hbytes hbase
      exact ⟨v', w', h2, h3, h4, h5⟩
  obtain ⟨v', w', hrun, h2, h3, h4⟩ := hrun
  unfold Oper.wp execOp
  simp only [ho, resolve, invoke, builtin, Sem.run_bind, Sem.run_pure, Result.andThen_ok, List.map_toArray, List.map_cons, List.map_nil, hs, hx, hrun]
  exact h v' w' h2 h3 h4


theorem Out.chg {B : Nat} {W W' : World} {v : Value} {ls : List (List Int)} {Q : Nat → Prop} (h : Out B W v ls) (hc : Chg Q W W') (hq : ∀ i, B ≤ i → ¬ Q i) : Out B W' v ls := by
  obtain ⟨vals, h1, h2⟩ := h
  exact ⟨vals, hc.own h1 (fun g hg => hq g (h1.lt g hg).1), h2.chg hc fun i _ hp => ⟨hq i hp.1, hp⟩⟩

/-- At a step of a region: one more list. -/
theorem step_append_list {ops : Array Oper} {o : Oper} {a : Act} {K : Act → World → Prop} {Q : Exit → Act → World → Prop} {E : Prop} (W : World) (hgd : o.guard = none) (s x : Operand)
    (ho : o.op = .call { callee := .builtin .append, args := #[s, x], argTypes := #[43, 43] }) (base B : Nat) (v : Value) (ls : List (List Int)) (y : List Int) (D : Option Addr) (d : Nat) (hs : a.eval s = v) (hown : Out base W v ls)
    (hx : a.eval x = .slice (some ⟨B, 0, none⟩) 1 1) (hB : W.heap[B]? = some (.cells #[.slice D y.length d] 22 (0, 0))) (hD : IntsAt W W.heap.size D y) (hD2 : ∀ ad, D = some ad → ad.block < W.heap.size ∧ base ≤ ad.block ∧ v.ownBlock ≠ some ad.block) (hk : ls.length < 1000000) (hbase : base ≤ W.heap.size)
    (h : ∀ A c w', Out base w' (.slice A (ls.length + 1) c) (ls ++ [y]) → Below base W w' → K (a.put o.dst (.slice A (ls.length + 1) c)) w') :
    if Region.wanted o (yielded ops a.tmps) = true then Oper.wp Tryd.prog o a W K Q else E := by
  obtain ⟨i0, hi, hz0, hz1, hz2⟩ := info_parts info22
  obtain ⟨us, h1, h2⟩ := hown
  refine step_append_src W hgd s x 43 ho base 22 i0 (.slice none 0 0) 1 24 Tryd.underlying43 hi hz0 hz1 hz2 rfl (by decide) v ls.length us hs h1 (some ⟨B, 0, none⟩) 1 1 [.slice D y.length d] hx rfl (fun j u hu => ⟨_, rfl, World.news_of_block hB j u hu⟩) ?_ (by unfold maxLen; omega) (by omega) hbase ?_
  · intro u hu
    simp only [List.mem_cons, List.not_mem_nil, or_false] at hu
    rcases hu with rfl; rfl
  · intro v' w' k1 k2 k3
    obtain ⟨A, c, rfl⟩ := own_slice k1
    have hlt := h1.lt
    refine h A c w' ⟨us ++ [.slice D y.length d], by simpa using k1, ?_⟩ ((Below.refl _ _).grown k2 hbase fun g hg => (hlt g hg).1)
    have hnew : ∀ {vs : List Value} {xs : List (List Int)}, Sls W (fun i => base ≤ i ∧ v.ownBlock ≠ some i) vs xs → Sls w' (fun i => base ≤ i ∧ (Value.slice A (ls.length + 1) c).ownBlock ≠ some i) vs xs := fun hh => hh.chg (Chg.of_grown k2) fun i hi hp => ⟨fun e => hp.2 e.symm, hp.1, by
      rcases k3 with e | e
      · rw [e]; exact hp.2
      · rw [e]; intro h; injection h; omega⟩
    refine Sls.append (hnew ?_) (hnew h2)
    exact ⟨⟨D, d, rfl, hD, hD2⟩, trivial⟩
end Go.Proofs.YtbcbaaapogejiaaDoor
