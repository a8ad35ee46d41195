/-
  One field of a node of the call's own written over: the nodes as they are read behind it. Conditions: as each theorem's premises say.
-/
import Derived.Test.YtmeigoeknjoodaaMpA
namespace Go.Proofs.Ytmeigoeknjoodaa
open Go.RowKit

theorem cell_set {w : World} {g : Nat} {cur : Array Value} {ty : TypeId} (h : w.heap[g]? = some (.cells cur ty (0, 0))) {j : Nat} {v : Value} (hc : w.cell? ⟨g, j, none⟩ = some v) (i : Nat) (u : Value) :
    (w.setCell ⟨g, i, none⟩ u).cell? ⟨g, j, none⟩ = some (if j = i then u else v) := by
  have hv : cur[j]? = some v := by simpa [World.cell?, h] using hc
  refine (obj_cells (heap_setCell_at h u)).1 j _ ?_
  have hl := (Array.getElem?_eq_some_iff.1 hv).1
  by_cases e : j = i
  · subst e
    rw [if_pos rfl, Array.getElem?_setIfInBounds_self_of_lt hl]
  · rw [if_neg e, Array.getElem?_setIfInBounds_ne (fun x => e x.symm)]
    exact hv
/-- A node's beginning is set. -/
def frN (m : Nd) (t : Int) : Nd := ⟨m.id, m.kd, t, Nd.to m, m.kids⟩
theorem nodes_from {w : World} {base g n cap i : Nat} {vs : List Nv} {ns : List Nd} {m : Nd} (h : OwnT w base (.slice (some ⟨g, 0, none⟩) n cap) vs ns) (hm : ns[i]? = some m) (t : Int) :
    NodesR (w.setCell ⟨g, i * 5 + 2, none⟩ (.int .i64 t)) (some ⟨g, 0, none⟩) (ns.set i (frN m t)) := by
  obtain ⟨cur, hcur⟩ := h.row.obj (g := g) rfl
  have il := (List.getElem?_eq_some_iff.1 hm).1
  have hg := setAll_one w g (i * 5 + 2) [.int .i64 t]
  have one : ∀ (j : Nat) (v : Nv) (x : Nd), vs[j]? = some v → ns[j]? = some x → lyI.Own (w.setCell ⟨g, i * 5 + 2, none⟩ (.int .i64 t)) base v.kv x.kids := fun j v x hv hx =>
    (h.fit j v x hv hx).2.2.2.2.kept hg (fun k hk e0 => by
      cases e0
      obtain ⟨c1, h1⟩ := (h.fit j v x hv hx).2.2.2.2.obj hk
      exact type_ne h1 hcur (by decide) rfl)
  intro j x hx
  obtain ⟨y, hy, hxy⟩ : ∃ y, ns[j]? = some y ∧ x = (if j = i then frN y t else y) := by
    by_cases e : j = i
    · subst e
      rw [List.getElem?_set_self il] at hx
      cases hx
      exact ⟨m, hm, (if_pos rfl).symm⟩
    · rw [List.getElem?_set_ne (Ne.symm e)] at hx
      exact ⟨x, hx, (if_neg e).symm⟩
  have hl : j < vs.length := by rw [h.len]; exact (List.getElem?_eq_some_iff.1 hy).1
  have hv := List.getElem?_eq_getElem hl
  generalize vs[j] = v at hv
  obtain ⟨a, b, c, d, -⟩ := h.fit j v y hv hy
  have e := one j v y hv hy
  have hat := h.row.at hv
  obtain ⟨kp, kc, hkv⟩ := e.form
  obtain ⟨vid, vkd, vfr, vtt, vkp, vkn, vkc⟩ := v
  unfold Nv.kv at hkv e
  dsimp only at a b c d hkv e
  cases hkv
  subst a b c d
  refine ⟨g, 0, kp, kc, rfl, ?_, ?_⟩
  · have c0 : (w.setCell ⟨g, i * 5 + 2, none⟩ (.int .i64 t)).cell? ⟨g, j * 5 + 0, none⟩ = some (if j * 5 + 0 = i * 5 + 2 then .int .i64 t else .int .i64 y.id) := cell_set hcur (j := j * 5 + 0) (v := .int .i64 y.id) (hat 0 _ rfl) (i * 5 + 2) (.int .i64 t)
    have c1 : (w.setCell ⟨g, i * 5 + 2, none⟩ (.int .i64 t)).cell? ⟨g, j * 5 + 1, none⟩ = some (if j * 5 + 1 = i * 5 + 2 then .int .i64 t else .int .i64 y.kd) := cell_set hcur (j := j * 5 + 1) (v := .int .i64 y.kd) (hat 1 _ rfl) (i * 5 + 2) (.int .i64 t)
    have c2 : (w.setCell ⟨g, i * 5 + 2, none⟩ (.int .i64 t)).cell? ⟨g, j * 5 + 2, none⟩ = some (if j * 5 + 2 = i * 5 + 2 then .int .i64 t else .int .i64 y.fr) := cell_set hcur (j := j * 5 + 2) (v := .int .i64 y.fr) (hat 2 _ rfl) (i * 5 + 2) (.int .i64 t)
    have c3 : (w.setCell ⟨g, i * 5 + 2, none⟩ (.int .i64 t)).cell? ⟨g, j * 5 + 3, none⟩ = some (if j * 5 + 3 = i * 5 + 2 then .int .i64 t else .int .i64 (Nd.to y)) := cell_set hcur (j := j * 5 + 3) (v := .int .i64 (Nd.to y)) (hat 3 _ rfl) (i * 5 + 2) (.int .i64 t)
    have c4 : (w.setCell ⟨g, i * 5 + 2, none⟩ (.int .i64 t)).cell? ⟨g, j * 5 + 4, none⟩ = some (if j * 5 + 4 = i * 5 + 2 then .int .i64 t else .slice kp y.kids.length kc) := cell_set hcur (j := j * 5 + 4) (v := .slice kp y.kids.length kc) (hat 4 _ rfl) (i * 5 + 2) (.int .i64 t)
    rw [if_neg (show ¬ j * 5 + 0 = i * 5 + 2 by omega)] at c0
    rw [if_neg (show ¬ j * 5 + 1 = i * 5 + 2 by omega)] at c1
    rw [if_neg (show ¬ j * 5 + 3 = i * 5 + 2 by omega)] at c3
    rw [if_neg (show ¬ j * 5 + 4 = i * 5 + 2 by omega)] at c4
    intro k u hu
    rw [Nat.zero_add]
    have ex : x.id = y.id ∧ x.kd = y.kd ∧ Nd.to x = Nd.to y ∧ x.kids = y.kids ∧ (Value.int .i64 x.fr = if j * 5 + 2 = i * 5 + 2 then .int .i64 t else .int .i64 y.fr) := by
      rw [hxy]
      by_cases ei : j = i
      · rw [if_pos ei, if_pos (by omega)]; exact ⟨rfl, rfl, rfl, rfl, rfl⟩
      · rw [if_neg ei, if_neg (by omega)]; exact ⟨rfl, rfl, rfl, rfl, rfl⟩
    obtain ⟨e0, e1, e3, e4, e2⟩ := ex
    match k, hu with
    | 0, hu => cases hu; rw [e0]; exact c0
    | 1, hu => cases hu; rw [e1]; exact c1
    | 2, hu => cases hu; rw [e2]; exact c2
    | 3, hu => cases hu; rw [e3]; exact c3
    | 4, hu => cases hu; rw [e4]; exact c4
    | k + 5, hu => cases hu
  · have ek : x.kids = y.kids := by
      rw [hxy]
      by_cases ei : j = i
      · rw [if_pos ei]; rfl
      · rw [if_neg ei]
    rw [ek]
    exact e.row

end Go.Proofs.Ytmeigoeknjoodaa
