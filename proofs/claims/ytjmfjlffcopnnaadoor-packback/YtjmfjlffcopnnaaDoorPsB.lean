/-
  Ps1, Ps2, Ps3, Ps4, in one text. Conditions: as each theorem's premises say.
-/
import Derived.Test.YtjmfjlffcopnnaaDoorLxB
import Derived.RegionTactic
namespace Go.Proofs.YtjmfjlffcopnnaaDoor
open Go.RowKit

/-- A node's own cells: its numbers, its children's slice. -/
structure Nv where
  id : Int
  kd : Int
  fr : Int
  tt : Int
  kp : Option Addr
  kn : Nat
  kc : Nat
def Nv.kv (x : Nv) : Value := .slice x.kp x.kn x.kc
def Nv.cells (x : Nv) : List Value := [.int .i64 x.id, .int .i64 x.kd, .int .i64 x.fr, .int .i64 x.tt, x.kv]
def lyN : Ly Nv where
  ty := 86
  sz := 5
  cells := Nv.cells
  len _ := rfl
  one t u hu := by
    simp [Nv.cells, Nv.kv] at hu
    rcases hu with rfl | rfl | rfl | rfl | rfl <;> rfl
  pos := by decide
def lyI : Ly Int where
  ty := 3
  sz := 1
  cells x := [.int .i64 x]
  len _ := rfl
  one t u hu := by simp at hu; subst hu; rfl
  pos := by decide
theorem info63 : (Tryd.prog.info? 86).map (fun i => (i.zero, i.size, i.bytes)) = some (some (.agg #[.int .i64 0, .int .i64 0, .int .i64 0, .int .i64 0, .slice none 0 0]), 5, 56) := by kernel_rfl
theorem info3 : (Tryd.prog.info? 3).map (fun i => (i.zero, i.size, i.bytes)) = some (some (.int .i64 0), 1, 8) := by kernel_rfl

/-! Writing over an element -/
def setAll (w : World) (g : Nat) : Nat → List Value → World
  | _, [] => w
  | o, u :: r => setAll (w.setCell ⟨g, o, none⟩ u) g (o + 1) r
theorem own_setAll {base e size g n cap : Nat} : ∀ (us xs : List Value) (o : Nat) (w : World), w.ownsRow base e size (.slice (some ⟨g, 0, none⟩) n cap) n xs → o + us.length ≤ xs.length →
    (setAll w g o us).ownsRow base e size (.slice (some ⟨g, 0, none⟩) n cap) n (xs.take o ++ us ++ xs.drop (o + us.length))
  | [], xs, o, w, h, _ => by
    have e : xs.take o ++ [] ++ xs.drop (o + ([] : List Value).length) = xs := by simp
    rw [e]; exact h
  | u :: r, xs, o, w, h, hl => by
    rw [List.length_cons] at hl
    have h1 : (w.setCell ⟨g, o, none⟩ u).ownsRow base e size (.slice (some ⟨g, 0, none⟩) n cap) n (xs.set o u) := by
      refine ⟨by rw [List.length_set]; exact h.1, ?_⟩
      rcases h.2 with ⟨hv, _⟩ | ⟨g', cap', cur, hv, hb, hg, hnc, hm, hs, ht⟩
      · cases hv
      · cases hv
        refine .inr ⟨g, cap, _, rfl, hb, heap_setCell_at hg u, hnc, hm, by simpa using hs, ?_⟩
        rw [Array.toList_setIfInBounds, List.take_set, ht]
    have h2 := own_setAll r (xs.set o u) (o + 1) _ h1 (by rw [List.length_set]; omega)
    have e : (xs.set o u).take (o + 1) ++ r ++ (xs.set o u).drop (o + 1 + r.length) = xs.take o ++ (u :: r) ++ xs.drop (o + (u :: r).length) := by
      rw [List.take_set, List.take_add_one, List.getElem?_eq_getElem (by omega), List.length_cons, show o + (r.length + 1) = o + 1 + r.length by omega, List.drop_set_of_lt (by omega)]
      rw [List.set_append_right _ _ (by rw [List.length_take]; omega), List.length_take, Nat.min_eq_left (by omega), Nat.sub_self]
      simp
    rw [e] at h2
    exact h2
theorem grown_setAll {w w1 : World} {g : Nat} : ∀ (us : List Value) (o : Nat), w.grownBy w1 (some g) → w.grownBy (setAll w1 g o us) (some g)
  | [], _, h => h
  | u :: r, o, h => grown_setAll r (o + 1) (grown_set h u)
theorem Ly.Own.set {α : Type} {L : Ly α} {w : World} {base g n cap : Nat} {xs : List α} {i : Nat} {x : α} (h : L.Own w base (.slice (some ⟨g, 0, none⟩) n cap) xs) (hi : xs[i]? = some x) (y : α) :
    L.Own (setAll w g (i * L.sz) (L.cells y)) base (.slice (some ⟨g, 0, none⟩) n cap) (xs.set i y) := by
  have hn : n = xs.length := by
    obtain ⟨p, c, e⟩ := h.form
    cases e; rfl
  subst hn
  obtain ⟨hs, hlt⟩ := split_at hi
  obtain ⟨h1, h2⟩ := all_split (L := L) hi
  have hle : i * L.sz + (L.cells y).length ≤ (L.all xs).length := by
    rw [L.len, all_len]
    have := Nat.mul_le_mul_right L.sz (show i + 1 ≤ xs.length from hlt)
    rw [Nat.succ_mul] at this
    exact this
  have := own_setAll (L.cells y) (L.all xs) (i * L.sz) w h hle
  have e : (L.all xs).take (i * L.sz) ++ L.cells y ++ (L.all xs).drop (i * L.sz + (L.cells y).length) = L.all (xs.set i y) := by
    have e1 : (L.all xs).take (i * L.sz) = L.all (xs.take i) := by rw [h1, List.take_left' h2]
    have e2 : (L.all xs).drop (i * L.sz + (L.cells y).length) = L.all (xs.drop (i + 1)) := by
      rw [h1, ← List.append_assoc, List.drop_left' (by rw [List.length_append, h2, L.len, L.len])]
    rw [e1, e2, List.set_eq_take_append_cons_drop, if_pos hlt, all_app]
    simp [Ly.all]
  rw [e] at this
  unfold Ly.Own
  rw [List.length_set]
  exact this

/-! Nodes with their children's rows, all of the call's own -/
def Fits (w : World) (base : Nat) (v : Nv) (n : Nd) : Prop := v.id = n.id ∧ v.kd = n.kd ∧ v.fr = n.fr ∧ v.tt = Nd.to n ∧ lyI.Own w base v.kv n.kids
structure OwnT (w : World) (base : Nat) (nv : Value) (vs : List Nv) (ns : List Nd) : Prop where
  row : lyN.Own w base nv vs
  len : vs.length = ns.length
  fit : ∀ (i : Nat) v n, vs[i]? = some v → ns[i]? = some n → Fits w base v n
  apart : ∀ (i j : Nat) v u g, vs[i]? = some v → vs[j]? = some u → i ≠ j → v.kv.ownBlock = some g → u.kv.ownBlock ≠ some g
theorem type_ne {w : World} {g g' : Nat} {c c' : Array Value} {e e' : TypeId} (h : w.heap[g]? = some (.cells c e (0, 0))) (h' : w.heap[g']? = some (.cells c' e' (0, 0))) (hne : e ≠ e') : g ≠ g' := by
  intro e0
  subst e0
  rw [h] at h'
  cases h'
  exact hne rfl
theorem OwnT.below {w w' : World} {base : Nat} {nv : Value} {vs : List Nv} {ns : List Nd} (h : OwnT w base nv vs ns) (hb : Below w.heap.size w w') : OwnT w' base nv vs ns :=
  ⟨h.row.below hb, h.len, fun i v n hv hn => by
    obtain ⟨a, b, c, d, e⟩ := h.fit i v n hv hn
    exact ⟨a, b, c, d, e.below hb⟩, h.apart⟩
/-- Nodes stay, when blocks of other types are written. -/
theorem OwnT.kept {w w' : World} {base g : Nat} {nv : Value} {vs : List Nv} {ns : List Nd} {c : Array Value} {e : TypeId} (h : OwnT w base nv vs ns) (hg : w.grownBy w' (some g)) (hc : w.heap[g]? = some (.cells c e (0, 0))) (h1 : e ≠ 86) (h2 : e ≠ 3) : OwnT w' base nv vs ns :=
  ⟨h.row.kept hg (fun k hk => by
      obtain ⟨cur, hcur⟩ := h.row.obj hk
      intro e0; cases e0
      exact type_ne hc hcur h1 rfl), h.len, fun i v n hv hn => by
    obtain ⟨a, b, c', d, e'⟩ := h.fit i v n hv hn
    exact ⟨a, b, c', d, e'.kept hg (fun k hk => by
      obtain ⟨cur, hcur⟩ := e'.obj hk
      intro e0; cases e0
      exact type_ne hc hcur h2 rfl)⟩, h.apart⟩
theorem set_grown (w : World) (g j : Nat) (u : Value) : w.grownBy (w.setCell ⟨g, j, none⟩ u) (some g) := grown_set (grown_refl w _) u
theorem obj_cells {W : World} {b : Nat} {cs : Array Value} {ty : TypeId} (h : W.heap[b]? = some (.cells cs ty (0, 0))) : (∀ j u, cs[j]? = some u → W.cell? ⟨b, j, none⟩ = some u) ∧ (∀ j, W.frozen? ⟨b, j, none⟩ = false) ∧ b < W.heap.size :=
  ⟨fun j u hu => by simp [World.cell?, h, hu], fun j => by simp [World.frozen?, h], (Array.getElem?_eq_some_iff.1 h).1⟩
theorem below_set {n : Nat} {w W : World} (h : Below n w W) {g j : Nat} (hg : n ≤ g) (u : Value) : Below n w (W.setCell ⟨g, j, none⟩ u) := h.setCell hg u
theorem below_drew {n : Nat} {w W : World} (h : Below n w W) : Below n w W.drew := ⟨h.os, h.tape, h.output, h.size, h.block⟩
/-- A new box of three numbers. -/
def Box3 (w W : World) (a b c : Int) : Prop := W.cell? ⟨w.heap.size, 0, none⟩ = some (.int .i64 a) ∧ W.cell? ⟨w.heap.size, 1, none⟩ = some (.int .i64 b) ∧ W.cell? ⟨w.heap.size, 2, none⟩ = some (.int .i64 c) ∧ (∀ j, W.frozen? ⟨w.heap.size, j, none⟩ = false) ∧ w.heap.size < W.heap.size
def NextPost (t : Tk) (is : Bool) (w : World) (e : Ending) (w' : World) : Prop := e = .returned (.tuple #[.agg #[.int .i64 t.k, .int .i64 t.fr, .int .i64 (Tk.to t)], .bool is]) ∧ Below w.heap.size w w'

theorem five_new {w : World} {H : Nat} (hH : w.heap.size = H) (x : Nv) : ∀ j u, (Nv.cells x)[j]? = some u → (w.alloc (.cells #[.int .i64 x.id, .int .i64 x.kd, .int .i64 x.fr, .int .i64 x.tt, x.kv] 86)).cell? ((⟨H, 0, none⟩ : Addr).add j) = some u := by
  subst hH
  exact World.news_of_block (heap_alloc_new w _)
theorem one_new {w : World} {H : Nat} (hH : w.heap.size = H) (x : Int) : ∀ j u, [Value.int .i64 x][j]? = some u → (w.alloc (.cells #[.int .i64 x] 3)).cell? ((⟨H, 0, none⟩ : Addr).add j) = some u := by
  subst hH
  exact World.news_of_block (heap_alloc_new w _)
/-- One node more. -/
theorem OwnT.push {w W : World} {base g cap : Nat} {nv : Value} {vs : List Nv} {ns : List Nd} (h : OwnT w base nv vs ns) (hg : w.grownBy W nv.ownBlock) (v : Nv) (n : Nd) (hn : n.kids = []) (hv : v.id = n.id ∧ v.kd = n.kd ∧ v.fr = n.fr ∧ v.tt = Nd.to n ∧ v.kv = .slice none 0 0)
    (hr : W.ownsRow base 86 5 (.slice (some ⟨g, 0, none⟩) (vs.length + 1) cap) (vs.length + 1) (lyN.all vs ++ Nv.cells v)) : OwnT W base (.slice (some ⟨g, 0, none⟩) (vs.length + 1) cap) (vs ++ [v]) (ns ++ [n]) := by
  refine ⟨?_, by simp [h.len], ?_, ?_⟩
  · unfold Ly.Own
    rw [List.length_append, List.length_singleton, all_app, all_one]
    exact hr
  · intro i u m hu hm
    by_cases hi : i < vs.length
    · rw [List.getElem?_append_left hi] at hu
      rw [List.getElem?_append_left (by rw [← h.len]; exact hi)] at hm
      obtain ⟨a, b, c, d, e⟩ := h.fit i u m hu hm
      refine ⟨a, b, c, d, e.kept hg (fun k hk e0 => ?_)⟩
      obtain ⟨cur, hcur⟩ := e.obj hk
      obtain ⟨cur', hcur'⟩ := h.row.obj e0
      exact type_ne hcur hcur' (by decide) rfl
    · have hi2 : i = vs.length := by
        have := (List.getElem?_eq_some_iff.1 hu).1
        simp at this; omega
      subst hi2
      rw [List.getElem?_append_right (Nat.le_refl _), Nat.sub_self] at hu
      rw [List.getElem?_append_right (by rw [h.len]; exact Nat.le_refl _), h.len, Nat.sub_self] at hm
      simp at hu hm
      subst hu; subst hm
      obtain ⟨a, b, c, d, e⟩ := hv
      exact ⟨a, b, c, d, by rw [hn, e]; exact Ly.Own.nil _ _⟩
  · intro i j x y k hx hy hij hk
    have key : ∀ (i : Nat) (x : Nv), (vs ++ [v])[i]? = some x → x.kv.ownBlock = some k → vs[i]? = some x := by
      intro i x hx hk
      by_cases hi : i < vs.length
      · rwa [List.getElem?_append_left hi] at hx
      · have hi2 : i = vs.length := by
          have := (List.getElem?_eq_some_iff.1 hx).1
          simp at this; omega
        subst hi2
        rw [List.getElem?_append_right (Nat.le_refl _), Nat.sub_self] at hx
        simp at hx
        subst hx
        rw [hv.2.2.2.2] at hk
        cases hk
    intro hk2
    exact h.apart i j x y k (key i x hx hk) (key j y hy hk2) hij hk hk2

theorem grown_setNew {w W : World} {row : Option Nat} {g j : Nat} (h : w.grownBy W row) (hg : w.heap.size ≤ g) (u : Value) : w.grownBy (W.setCell ⟨g, j, none⟩ u) row :=
  grown_trans h (set_grown W g j u) (fun k e => by cases e; exact .inr hg)
theorem setAll_one (W : World) (g o : Nat) (us : List Value) : W.grownBy (setAll W g o us) (some g) := grown_setAll us o (grown_refl W _)
/-- A node written over with one that has the same children's row. -/
theorem OwnT.write {w : World} {base g n cap id : Nat} {vs : List Nv} {ns : List Nd} {v v' : Nv} {m m' : Nd} (h : OwnT w base (.slice (some ⟨g, 0, none⟩) n cap) vs ns) (hv : vs[id]? = some v) (hm : ns[id]? = some m)
    (hf : v'.id = m'.id ∧ v'.kd = m'.kd ∧ v'.fr = m'.fr ∧ v'.tt = Nd.to m') (hk : v'.kv = v.kv) (hk2 : m'.kids = m.kids) : OwnT (setAll w g (id * 5) (Nv.cells v')) base (.slice (some ⟨g, 0, none⟩) n cap) (vs.set id v') (ns.set id m') := by
  have hlt := (List.getElem?_eq_some_iff.1 hv).1
  have keep : ∀ (i : Nat) (u : Nv), (vs.set id v')[i]? = some u → ∃ u0, vs[i]? = some u0 ∧ u.kv = u0.kv ∧ (i ≠ id → u = u0) ∧ (i = id → u = v') := by
    intro i u hu
    by_cases e : i = id
    · subst e
      rw [List.getElem?_set_self hlt] at hu
      cases hu
      exact ⟨v, hv, hk, fun h => absurd rfl h, fun _ => rfl⟩
    · rw [List.getElem?_set_ne (Ne.symm e)] at hu
      exact ⟨u, hu, rfl, fun _ => rfl, fun h => absurd h e⟩
  refine ⟨h.row.set hv v', by simp [h.len], ?_, ?_⟩
  · intro i u x hu hx
    obtain ⟨u0, hu0, hkv, h1, h2⟩ := keep i u hu
    by_cases e : i = id
    · have hu2 := h2 e
      subst e
      rw [List.getElem?_set_self (by rw [← h.len]; exact hlt)] at hx
      cases hx
      rw [hu2]
      obtain ⟨a, b, c, d⟩ := hf
      obtain ⟨-, -, -, -, e5⟩ := h.fit i v m hv hm
      refine ⟨a, b, c, d, ?_⟩
      rw [hk, hk2]
      exact e5.kept (setAll_one ..) (fun k hk' e0 => by
        cases e0
        obtain ⟨cur, hcur⟩ := e5.obj hk'
        obtain ⟨cur', hcur'⟩ := h.row.obj (g := g) rfl
        exact type_ne hcur hcur' (by decide) rfl)
    · rw [List.getElem?_set_ne (Ne.symm e)] at hx
      obtain rfl := h1 e
      obtain ⟨a, b, c, d, e5⟩ := h.fit i u x hu0 hx
      exact ⟨a, b, c, d, e5.kept (setAll_one ..) (fun k hk' e0 => by
        cases e0
        obtain ⟨cur, hcur⟩ := e5.obj hk'
        obtain ⟨cur', hcur'⟩ := h.row.obj (g := g) rfl
        exact type_ne hcur hcur' (by decide) rfl)⟩
  · intro i j x y k hx hy hij hk'
    obtain ⟨x0, hx0, ex, -, -⟩ := keep i x hx
    obtain ⟨y0, hy0, ey, -, -⟩ := keep j y hy
    rw [ex] at hk'
    rw [ey]
    exact h.apart i j x0 y0 k hx0 hy0 hij hk'
/-- One child more. -/
theorem OwnT.kid {w W : World} {base g n cap id g2 cap2 : Nat} {vs : List Nv} {ns : List Nd} {v : Nv} {m : Nd} {c : Int} (h : OwnT w base (.slice (some ⟨g, 0, none⟩) n cap) vs ns) (hv : vs[id]? = some v) (hm : ns[id]? = some m)
    (hg : w.grownBy W v.kv.ownBlock) (ho : W.ownsRow base 3 1 (.slice (some ⟨g2, 0, none⟩) (m.kids.length + 1) cap2) (m.kids.length + 1) (lyI.all m.kids ++ [.int .i64 c])) (hgg : v.kv.ownBlock = some g2 ∨ w.heap.size ≤ g2) :
    OwnT (setAll W g (id * 5) (Nv.cells ⟨v.id, v.kd, v.fr, v.tt, some ⟨g2, 0, none⟩, m.kids.length + 1, cap2⟩)) base (.slice (some ⟨g, 0, none⟩) n cap) (vs.set id ⟨v.id, v.kd, v.fr, v.tt, some ⟨g2, 0, none⟩, m.kids.length + 1, cap2⟩) (ns.set id ⟨m.id, m.kd, m.fr, Nd.to m, m.kids ++ [c]⟩) := by
  have hlt := (List.getElem?_eq_some_iff.1 hv).1
  obtain ⟨curG, hG⟩ := h.row.obj (g := g) rfl
  have rowW : lyN.Own W base (.slice (some ⟨g, 0, none⟩) n cap) vs := h.row.kept hg (fun k hk e0 => by
    cases hk
    obtain ⟨cur, hcur⟩ := (h.fit id v m hv hm).2.2.2.2.obj e0
    exact type_ne hG hcur (by decide) rfl)
  obtain ⟨curW, hGW⟩ := rowW.obj (g := g) rfl
  have old : ∀ (i : Nat) (u : Nv) (k : Nat), vs[i]? = some u → u.kv.ownBlock = some k → k < w.heap.size := by
    intro i u k hu hk
    have hl : i < ns.length := by rw [← h.len]; exact (List.getElem?_eq_some_iff.1 hu).1
    exact ((h.fit i u _ hu (List.getElem?_eq_getElem hl)).2.2.2.2.lt hk).2
  have keep : ∀ (i : Nat) (u : Nv), (vs.set id ⟨v.id, v.kd, v.fr, v.tt, some ⟨g2, 0, none⟩, m.kids.length + 1, cap2⟩)[i]? = some u → (i ≠ id ∧ vs[i]? = some u) ∨ (i = id ∧ u = ⟨v.id, v.kd, v.fr, v.tt, some ⟨g2, 0, none⟩, m.kids.length + 1, cap2⟩) := by
    intro i u hu
    by_cases e : i = id
    · subst e
      rw [List.getElem?_set_self hlt] at hu
      cases hu
      exact .inr ⟨rfl, rfl⟩
    · rw [List.getElem?_set_ne (Ne.symm e)] at hu
      exact .inl ⟨e, hu⟩
  have far : ∀ (i : Nat) (u : Nv), i ≠ id → vs[i]? = some u → u.kv.ownBlock ≠ some g2 := by
    intro i u hi hu hk
    rcases hgg with e | e
    · exact h.apart i id u v g2 hu hv hi hk e
    · have := old i u g2 hu hk; omega
  refine ⟨rowW.set hv _, by simp [h.len], ?_, ?_⟩
  · intro i u x hu hx
    rcases keep i u hu with ⟨e, hu⟩ | ⟨e, rfl⟩
    · rw [List.getElem?_set_ne (Ne.symm e)] at hx
      obtain ⟨a, b, c', d, e5⟩ := h.fit i u x hu hx
      have e6 : lyI.Own W base u.kv x.kids := e5.kept hg (fun k hk e0 => h.apart i id u v k hu hv e hk e0)
      exact ⟨a, b, c', d, e6.kept (setAll_one ..) (fun k hk' e0 => by
        cases e0
        obtain ⟨cur, hcur⟩ := e6.obj hk'
        exact type_ne hcur hGW (by decide) rfl)⟩
    · subst e
      rw [List.getElem?_set_self (by rw [← h.len]; exact hlt)] at hx
      cases hx
      obtain ⟨a, b, c', d, e5⟩ := h.fit i v m hv hm
      have e6 : lyI.Own W base (.slice (some ⟨g2, 0, none⟩) (m.kids.length + 1) cap2) (m.kids ++ [c]) := by
        unfold Ly.Own
        rw [List.length_append, List.length_singleton, all_app, all_one]
        exact ho
      exact ⟨a, b, c', d, e6.kept (setAll_one ..) (fun k hk' e0 => by
        cases e0
        obtain ⟨cur, hcur⟩ := e6.obj hk'
        exact type_ne hcur hGW (by decide) rfl)⟩
  · intro i j x y k hx hy hij hk hk2
    rcases keep i x hx with ⟨e, hx⟩ | ⟨e, rfl⟩
    · rcases keep j y hy with ⟨e', hy⟩ | ⟨e', rfl⟩
      · exact h.apart i j x y k hx hy hij hk hk2
      · cases hk2
        exact far i x e hx hk
    · rcases keep j y hy with ⟨e', hy⟩ | ⟨e', rfl⟩
      · cases hk
        exact far j y e' hy hk2
      · exact hij (e.trans e'.symm)

/-- A child's number is added to a node's. -/
def kidN (ns : List Nd) (id : Nat) (c : Int) : List Nd := ns.modify id (fun m => ⟨m.id, m.kd, m.fr, Nd.to m, m.kids ++ [c]⟩)
theorem kidN_set {ns : List Nd} {id : Nat} {m : Nd} (h : ns[id]? = some m) (c : Int) : kidN ns id c = ns.set id ⟨m.id, m.kd, m.fr, Nd.to m, m.kids ++ [c]⟩ := by
  unfold kidN
  have hl := (List.getElem?_eq_some_iff.1 h).1
  apply List.ext_getElem?
  intro j
  rw [List.getElem?_modify, List.getElem?_set]
  by_cases e : id = j
  · subst e
    rw [if_pos rfl, if_pos hl, h]; simp
  · simp [e]
theorem box_far {w W : World} {cs : Array Value} {ty : Nat} {o : Obj} {row : Option Nat} (h : ((w.alloc (.cells cs ty)).alloc o).grownBy W row) (hr : ∀ k, row = some k → k < w.heap.size) : W.heap[w.heap.size]? = some (.cells cs ty (0, 0)) := by
  rw [h.block w.heap.size (by simp; omega) (fun e => by have := hr _ e.symm; omega), Below.heap_alloc _ _ _ (by simp)]
  exact heap_alloc_new w _

/-- A node's end is set. -/
def clN (ns : List Nd) (id : Nat) (t : Int) : List Nd := ns.modify id (fun m => ⟨m.id, m.kd, m.fr, t, m.kids⟩)
theorem clN_set {ns : List Nd} {id : Nat} {m : Nd} (h : ns[id]? = some m) (t : Int) : clN ns id t = ns.set id ⟨m.id, m.kd, m.fr, t, m.kids⟩ := by
  unfold clN
  have hl := (List.getElem?_eq_some_iff.1 h).1
  apply List.ext_getElem?
  intro j
  rw [List.getElem?_modify, List.getElem?_set]
  by_cases e : id = j
  · subst e
    rw [if_pos rfl, if_pos hl, h]; simp
  · simp [e]
end Go.Proofs.YtjmfjlffcopnnaaDoor
