/-
  The fewest cells that show all turns; lists of cells in memory.
-/
import Derived.Test.YtbcbaaapogejiaaDoorMathI
import Derived.Test.YtbcbaaapogejiaaDoorCelE
import Derived.Test.YtbcbaaapogejiaaDoorRefI
import Derived.Deep.LoopGhost
import Derived.Deep.Slices
namespace Go.Proofs.YtbcbaaapogejiaaDoor
open Go.RowKit

theorem find_congr {α : Type} {P Q : α → Bool} : ∀ {L : List α}, (∀ x ∈ L, P x = Q x) → L.find? P = L.find? Q
  | [], _ => rfl
  | x :: L, h => by
    rw [List.find?_cons, List.find?_cons, h x (by simp), find_congr fun y hy => h y (by simp [hy])]
theorem full_shows {p : Pr} {b : List Int} (hb : b.length = p.n) {l : List Nat} (h : ∀ c, c < p.n → c ∈ l) : showsB p b l = true := by
  unfold showsB
  rw [List.all_eq_true]
  intro t _
  unfold seenT
  rw [Bool.or_eq_true, decide_eq_true_eq, List.any_eq_true]
  by_cases htd : tdL (srcs p.R p.C (mv t)) b = b
  · exact .inl htd
  · obtain ⟨c, hc1, hc2⟩ := td_ne (by rw [srcs_len, hb]; rfl) htd
    exact .inr ⟨c, h c (by omega), by rw [decide_eq_true_eq]; exact hc2⟩
theorem least_shows (p : Pr) {b : List Int} (hb : b.length = p.n) : ∃ sz r, sz ≤ p.n ∧ (∀ s, s < sz → ∀ l ∈ lsF p.n s 0, showsB p b l = false) ∧ (lsF p.n sz 0).find? (showsB p b) = some r := by
  obtain ⟨l0, h1, h2⟩ := lsF_full p.n 0
  have h3 : showsB p b l0 = true := full_shows hb fun c hc => h2 c (Nat.zero_le _) (by omega)
  obtain ⟨sz, ⟨l, hl1, hl2⟩, hmin⟩ := exists_least (p := fun s => ∃ l ∈ lsF p.n s 0, showsB p b l = true) ⟨p.n, l0, h1, h3⟩
  have hs : ((lsF p.n sz 0).find? (showsB p b)).isSome = true := by
    rw [List.find?_isSome]
    exact ⟨l, hl1, hl2⟩
  obtain ⟨r, hr⟩ := Option.isSome_iff_exists.1 hs
  refine ⟨sz, r, hmin p.n ⟨l0, h1, h3⟩, fun s hs l hl => ?_, hr⟩
  rcases hb : showsB p b l with _ | _
  · rfl
  · have := hmin s ⟨l, hl, hb⟩
    omega
theorem pick_shows {p : Pr} (hp : p.Ok) {b : List Int} (hb : b.length = p.n) (s : Nat) : pickN (shown p.from b) ((shown p.from b).length + 2 - 0) 0 s (unionN (shown p.from b)) = (lsF p.n s 0).find? (showsB p b) := by
  have hl : (shown p.from b).length = p.n := by rw [shown_len, hb]
  rw [pick_find _ _ _ _ _ (by omega) (by omega), hl, Nat.sub_zero]
  refine find_congr fun l hm => ?_
  have hc := (lsF_in p.n s 0 l hm).2
  have h := cover_shows hp hb (cs := l) (fun c h => by have := hc c h; omega)
  rcases hs : showsB p b l with _ | _
  · rw [hs] at h
    exact beq_eq_false_iff_ne.2 fun e => by have := h.1 e; cases this
  · rw [hs] at h
    exact beq_iff_eq.2 (h.2 rfl)

set_option maxRecDepth 100000 in
theorem cellsF_any (p : Pr) (hp : p.Ok) (A TA : Option Addr) (c tc : Nat) (b : List Int) (r : List Nat) (sz : Nat) (w : World) (hm : MovW w) (hT : IntsAt w w.heap.size TA (intsN p.T)) (hA : IntsAt w w.heap.size A b) (hb : BackOk p b)
    (hsz : sz ≤ p.n) (hno : ∀ s, s < sz → ∀ l ∈ lsF p.n s 0, showsB p b l = false) (hyes : (lsF p.n sz 0).find? (showsB p b) = some r) :
    Calls Tryd.prog 43 #[.agg #[.int .i64 p.R, .int .i64 p.C, .int .i64 p.K, .slice TA p.T.length tc], .slice A b.length c] w (RetInts0 w (intsN r)) :=
  cellsF_ok p hp A TA c tc b r sz w hm hT hA hb (by rw [shown_len, hb.1]; exact hsz) (fun s hs => by
    rw [pick_shows hp hb.1, List.find?_eq_none]
    intro l hl
    rw [hno s hs l hl]; decide) (by rw [pick_shows hp hb.1]; exact hyes)

/-- Many lists that lie in memory, as values. -/
theorem sls_of {W : World} {P : Nat → Prop} : ∀ {ms : List (List Int)} {ad : Addr}, (∀ k x, ms[k]? = some x → ∃ D d, W.cell? (ad.add k) = some (.slice D x.length d) ∧ IntsAt W W.heap.size D x ∧ ∀ a, D = some a → a.block < W.heap.size ∧ P a.block) →
    ∃ us, Sls W P us ms ∧ ∀ j u, us[j]? = some u → W.cell? (ad.add j) = some u
  | [], _, _ => ⟨[], trivial, fun j u h => by simp at h⟩
  | x :: ms, ad, h => by
    obtain ⟨D, d, h1, h2, h3⟩ := h 0 x rfl
    have e : ∀ k, (ad.add 1).add k = ad.add (k + 1) := fun k => by rw [Go.Deep.add_add, Nat.add_comm]
    obtain ⟨us, h4, h5⟩ := sls_of (ms := ms) (ad := ad.add 1) (fun k y hy => by rw [e]; exact h (k + 1) y (by simpa using hy))
    refine ⟨.slice D x.length d :: us, ⟨⟨D, d, rfl, h2, h3⟩, h4⟩, fun j u hj => ?_⟩
    rcases j with _ | j
    · have : Value.slice D x.length d = u := by simpa using hj
      rw [← this]; exact h1
    · rw [← e]; exact h5 j u (by simpa using hj)

set_option maxRecDepth 100000 in
theorem wpList_append_lists {ops : Array Oper} {rest : List Oper} {o : Oper} {a : Act} {Q : Exit → Act → World → Prop} (W : World) (hgd : o.guard = none) (s x : Operand)
    (ho : o.op = .call { callee := .builtin .append, args := #[s, x], argTypes := #[43, 43] }) (base : Nat) (v : Value) (ls ms : List (List Int)) (hs : a.eval s = v) (hown : Out base W v ls)
    (D : Option Addr) (d : Nat) (hx : a.eval x = .slice D ms.length d) (hD : ∀ k y, ms[k]? = some y → ∃ ad E e, D = some ad ∧ W.cell? (ad.add k) = some (.slice E y.length e) ∧ IntsAt W W.heap.size E y ∧ ∀ a, E = some a → a.block < W.heap.size ∧ base ≤ a.block ∧ v.ownBlock ≠ some a.block) (hk : ls.length + ms.length < 1000000) (hbase : base ≤ W.heap.size)
    (h : ∀ v' w', Out base w' v' (ls ++ ms) → Below base W w' → wpList Tryd.prog ops Q rest (a.put o.dst v') w') :
    wpList Tryd.prog ops Q (o :: rest) a W := by
  obtain ⟨i0, hi, hz0, hz1, hz2⟩ := info_parts info22
  obtain ⟨us, h1, h2⟩ := hown
  have hlt := h1.lt
  refine wpList_plain hgd fun K hK => ?_
  have hrun : ∃ v' w', (Builtin.append_ #[43, 43] o.type #[v, .slice D ms.length d]).run Tryd.prog W = .ok v' w' ∧ Out base w' v' (ls ++ ms) ∧ Below base W w' := by
    rcases D with _ | ad
    · have hm : ms = [] := by
        rcases ms with _ | ⟨y, _⟩
        · rfl
        · obtain ⟨_, _, _, h, _⟩ := hD 0 y rfl
          cases h
      subst hm
      exact ⟨v, W, run_append_from_nil W base 43 o.type 22 i0 1 Tryd.underlying43 hi v ls.length _ h1 d, by rw [List.append_nil]; exact ⟨us, h1, h2⟩, Below.refl _ _⟩
    · obtain ⟨ns, h3, h4⟩ := sls_of (W := W) (P := fun i => base ≤ i ∧ v.ownBlock ≠ some i) (ms := ms) (ad := ad) (fun k y hy => by
        obtain ⟨ad', E, e, h5, h6, h7, h8⟩ := hD k y hy
        injection h5 with h5
        subst h5
        exact ⟨E, e, h6, h7, h8⟩)
      obtain ⟨v', w', k2, k3, k4, _, k5⟩ := run_append_own_at (P := Tryd.prog) W base 43 o.type 22 i0 (.slice none 0 0) 1 24 Tryd.underlying43 hi hz0 hz1 hz2 rfl (by decide) v ls.length _ h1 ad ms.length d ns (by rw [h3.len]; simp) h4 (fun u hu => h3.one u hu) (by unfold maxLen; omega) (by omega) hbase
      refine ⟨v', w', k2, ⟨us ++ ns, by rw [List.length_append]; exact k3, ?_⟩, (Below.refl _ _).grown k4 hbase fun g hg => (hlt g hg).1⟩
      have hnew : ∀ {vs : List Value} {xs : List (List Int)}, Sls W (fun i => base ≤ i ∧ v.ownBlock ≠ some i) vs xs → Sls w' (fun i => base ≤ i ∧ v'.ownBlock ≠ some i) vs xs := fun hh => hh.chg (Chg.of_grown k4) fun i hi hp => ⟨fun e => hp.2 e.symm, hp.1, by
        rcases k5 with e | e
        · rw [e]; exact hp.2
        · rw [e]; intro h; injection h; omega⟩
      exact Sls.append (hnew h3) (hnew h2)
  obtain ⟨v', w', hrun, h3, h4⟩ := hrun
  unfold Oper.wp execOp
  simp only [ho, resolve, invoke, builtin, Sem.run_bind, Sem.run_pure, Result.andThen_ok, List.map_toArray, List.map_cons, List.map_nil, hs, hx, hrun]
  exact hK _ _ (h v' w' h3 h4)
end Go.Proofs.YtbcbaaapogejiaaDoor
