/-
  One more way that may have nothing makes no span narrower; a way that is told more exactly makes no span wider.
-/
import Derived.Test.YtcebihijnedekaaDoorMathF
namespace Go.Proofs.YtcebihijnedekaaDoor

theorem net_snoc (r : Int) (y : Wy) : ∀ (ws : List Wy) (fl : List Int), fl.length = ws.length → net r (ws ++ [y]) (fl ++ [0]) = net r ws fl
  | [], [], _ => by simp [net]
  | [], _ :: _, h => by simp at h
  | _ :: _, [], h => by simp at h
  | w :: ws, f :: fl, h => by
    have ih := net_snoc r y ws fl (by simpa using h)
    simp only [List.cons_append, net, ih]

/-- A flow, with nothing by one more way, is a flow. -/
theorem flow_snoc {ws : List Wy} {y : Wy} {fl : List Int} (h : Flow ws fl) (h0 : y.lo = 0) (h1 : 0 ≤ y.hi) : Flow (ws ++ [y]) (fl ++ [0]) := by
  have hl := h.1.1
  refine ⟨⟨by simp [hl], fun i w f hw hf => ?_⟩, fun r => by rw [net_snoc r y ws fl hl]; exact h.2 r⟩
  by_cases hi : i < ws.length
  · rw [List.getElem?_append_left hi] at hw
    rw [List.getElem?_append_left (by omega)] at hf
    exact h.1.2 i w f hw hf
  · rw [List.getElem?_append_right (by omega)] at hw
    rw [List.getElem?_append_right (by omega)] at hf
    have e1 : i - ws.length = 0 := by have := lt_of_get hw; simp at this; omega
    rw [e1] at hw
    rw [hl, e1] at hf
    cases hw
    cases hf
    omega

theorem agr_snoc {rooms : Nat} {ws : List Wy} {y : Wy} (hv : inW rooms ws) (hok : okW ws) (hv' : inW rooms (ws ++ [y])) (ha : Agr ws) (h0 : y.lo = 0) (h1 : 0 ≤ y.hi) : Agr (ws ++ [y]) := by
  obtain ⟨fl, hf⟩ := (hoffman hv hok).1 ha
  exact agr_of_flow hv' (flow_snoc hf h0 h1)

/-- Where all flows of some books are flows of others, at the same places, spans are within spans. -/
theorem span_sub {rooms rooms' : Nat} {ws vs : List Wy} (hv : inW rooms ws) (hok : okW ws) (ha : Agr ws) (hv' : inW rooms' vs) {i j : Nat} {x y : Wy} (hx : ws[i]? = some x) (hy : vs[j]? = some y)
    (hmap : ∀ fl f, Flow ws fl → fl[i]? = some f → ∃ gl, Flow vs gl ∧ gl[j]? = some f) :
    (spanS rooms' vs y).1 ≤ (spanS rooms ws x).1 ∧ (spanS rooms ws x).2 ≤ (spanS rooms' vs y).2 := by
  have hs := span_in (rooms := rooms) hx ha hok
  obtain ⟨f1, g1, e1⟩ := span_flow hv hok ha hx (Int.le_refl _) hs.2.1
  obtain ⟨f2, g2, e2⟩ := span_flow hv hok ha hx hs.2.1 (Int.le_refl _)
  obtain ⟨k1, m1, n1⟩ := hmap f1 _ g1 e1
  obtain ⟨k2, m2, n2⟩ := hmap f2 _ g2 e2
  exact ⟨(flow_span hv' m1 hy n1).1, (flow_span hv' m2 hy n2).2⟩

/-- One more way makes no span narrower. -/
theorem span_wide {rooms : Nat} {ws : List Wy} {y : Wy} (hv : inW rooms ws) (hok : okW ws) (ha : Agr ws) (hv' : inW rooms (ws ++ [y])) (h0 : y.lo = 0) (h1 : 0 ≤ y.hi) {i : Nat} {x : Wy} (hx : ws[i]? = some x) :
    (spanS rooms (ws ++ [y]) x).1 ≤ (spanS rooms ws x).1 ∧ (spanS rooms ws x).2 ≤ (spanS rooms (ws ++ [y]) x).2 := by
  have hil := lt_of_get hx
  refine span_sub hv hok ha hv' hx (by rw [List.getElem?_append_left hil]; exact hx) (fun fl f hF hf => ⟨fl ++ [0], flow_snoc hF h0 h1, ?_⟩)
  rw [List.getElem?_append_left (lt_of_get hf)]
  exact hf

/-- A way that is told more exactly. -/
def nar (x : Wy) (b : Int) : Wy :=
  let lo := min x.hi (x.lo + b % 2)
  { x with lo := lo, hi := max lo (x.hi - b / 2 % 2) }

theorem nar_in {x : Wy} {b : Int} (h : x.lo ≤ x.hi) : x.lo ≤ (nar x b).lo ∧ (nar x b).lo ≤ (nar x b).hi ∧ (nar x b).hi ≤ x.hi := by
  unfold nar
  dsimp only
  omega

theorem flow_nar {ws : List Wy} {k : Nat} {x : Wy} {b : Int} (hk : ws[k]? = some x) (hok : x.lo ≤ x.hi) {fl : List Int} (h : Flow (ws.set k (nar x b)) fl) : Flow ws fl := by
  have hkl := lt_of_get hk
  have hn := nar_in (b := b) hok
  have hnet : ∀ (r : Int) (ws : List Wy) (g : List Int) (k : Nat) (w y : Wy), ws[k]? = some w → y.src = w.src → y.dst = w.dst → net r (ws.set k y) g = net r ws g := by
    intro r ws
    induction ws with
    | nil => intro g k w y hk; simp at hk
    | cons z ws ih =>
      intro g k w y hk h1 h2
      cases k with
      | zero => simp at hk; subst hk; cases g <;> simp [net, h1, h2]
      | succ k => cases g <;> simp [net]; exact ih _ k w y (by simpa using hk) h1 h2
  refine ⟨⟨by simpa using h.1.1, fun i w f hw hf => ?_⟩, fun r => ?_⟩
  · by_cases hi : i = k
    · subst hi
      rw [hk] at hw; cases hw
      have := h.1.2 i (nar x b) f (by rw [getElem?_mem_set hkl, if_pos rfl]) hf
      omega
    · exact h.1.2 i w f (by rw [getElem?_mem_set hkl, if_neg hi]; exact hw) hf
  · have := h.2 r
    rwa [hnet r ws fl k x (nar x b) hk rfl rfl] at this

/-- A way that is told more exactly makes no span wider. -/
theorem span_nar {rooms : Nat} {ws : List Wy} {k : Nat} {x : Wy} {b : Int} (hv : inW rooms ws) (hk : ws[k]? = some x) (hok : okW ws) (hv' : inW rooms (ws.set k (nar x b))) (hok' : okW (ws.set k (nar x b))) (ha' : Agr (ws.set k (nar x b))) {i : Nat} {y z : Wy} (hy : ws[i]? = some y) (hz : (ws.set k (nar x b))[i]? = some z) :
    (spanS rooms ws y).1 ≤ (spanS rooms (ws.set k (nar x b)) z).1 ∧ (spanS rooms (ws.set k (nar x b)) z).2 ≤ (spanS rooms ws y).2 :=
  span_sub hv' hok' ha' hv hz hy (fun fl _ hF hf => ⟨fl, flow_nar hk (hok x (mem_of_get hk)) hF, hf⟩)
end Go.Proofs.YtcebihijnedekaaDoor
