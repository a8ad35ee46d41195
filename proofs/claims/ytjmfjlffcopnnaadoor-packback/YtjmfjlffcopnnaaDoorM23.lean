/-
  TaE, Sp3, in one text. Conditions: as each theorem's premises say.
-/
import Derived.Test.YtjmfjlffcopnnaaDoorM22
import Derived.Test.YtjmfjlffcopnnaaDoorM18
import Derived.Test.YtjmfjlffcopnnaaDoorM20
namespace Go.Proofs.YtjmfjlffcopnnaaDoor
open Go.RowKit
open Go.Proofs.YtjmfjlffcopnnaaDoor.K (C RowC)

theorem OwnS.kept {w w' : World} {base g : Nat} {v : Value} {vs : List Sv} {ss : List St} {c : Array Value} {e : TypeId} (h : OwnS w base v vs ss) (hg : w.grownBy w' (some g)) (hc : w.heap[g]? = some (.cells c e (0, 0))) (h1 : e ≠ 45) (h2 : e ≠ 3) : OwnS w' base v vs ss :=
  ⟨h.row.kept hg (fun k hk => by
      obtain ⟨cur, hcur⟩ := h.row.obj hk
      intro e0; cases e0
      exact type_ne hc hcur h1 rfl), h.len, fun i x s hx hs => by
    obtain ⟨a1, a2, a3, a4, a5, a6⟩ := h.fit i x s hx hs
    exact ⟨a1, a2, a3, a4, a5, a6.kept hg (fun k hk => by
      obtain ⟨cur, hcur⟩ := a6.obj hk
      intro e0; cases e0
      exact type_ne hc hcur h2 rfl)⟩⟩
theorem OwnS.mono {w : World} {base base' : Nat} {v : Value} {vs : List Sv} {ss : List St} (h : OwnS w base v vs ss) (hb : base' ≤ base) : OwnS w base' v vs ss :=
  ⟨h.row.mono hb, h.len, fun i x s hx hs => by
    obtain ⟨a1, a2, a3, a4, a5, a6⟩ := h.fit i x s hx hs
    exact ⟨a1, a2, a3, a4, a5, a6.mono hb⟩⟩
theorem compsOwn_kept {w w' : World} {base g : Nat} {v : Value} {cs : List C} {c : Array Value} {e : TypeId} (h : lyC.Own w base v cs) (hg : w.grownBy w' (some g)) (hc : w.heap[g]? = some (.cells c e (0, 0))) (h1 : e ≠ 42) : lyC.Own w' base v cs :=
  h.kept hg (fun k hk => by
      obtain ⟨cur, hcur⟩ := h.obj hk
      intro e0; cases e0
      exact type_ne hc hcur h1 rfl)
/-- A box of another type stays, where the row of steps is written. -/
theorem box_staysS {w w' : World} {base k : Nat} {v : Value} {vs : List Sv} {c : Array Value} {ty : TypeId} (ho : lyS.Own w base v vs) (hg : w.grownBy w' v.ownBlock) (h : w.heap[k]? = some (.cells c ty (0, 0))) (hty : ty ≠ 45) : w'.heap[k]? = some (.cells c ty (0, 0)) :=
  (hg.block k (Array.getElem?_eq_some_iff.1 h).1 (fun e => by
    obtain ⟨cur, hcur⟩ := ho.obj e.symm
    exact type_ne h hcur hty rfl)).trans h
theorem own_rowC {w : World} {base n cap : Nat} {p : Option Addr} {cs : List C} (h : lyC.Own w base (.slice p n cap) cs) : RowC w p cs := fun i c hi => by
  obtain ⟨b, o, hp, hat⟩ := h.row i c hi
  exact ⟨b, o, hp, hat 0 _ rfl, hat 1 _ rfl, hat 2 _ rfl⟩

theorem ent_eq {t t1 t2 t3 t4 t5 : Ts} {x1 x2 : Int} {ed : List C} {K : Nat} {ss : List St} (h1 : pNum t = (x1, t1)) (h2 : pNum t1 = (x2, t2)) (h3 : pComps t2 = (ed, t3)) (h4 : pCount t3 = ((K : Int), t4)) (h5 : pRow pStep K [] t4 = (ss, t5)) : pEnt t = (⟨x1, x2, ed, ss⟩, t5) := by
  unfold pEnt pList
  simp only [h1, h2, h3, h4, Int.toNat_natCast, h5]

/-- A row of entries of the call's own, their edits' and their deltas' rows too. -/
def FitE (w : World) (base : Nat) (v : Ev) (e : En) : Prop := v.cl = e.cl ∧ v.sq = e.sq ∧ lyC.Own w base v.ev e.ed ∧ ∃ vs, OwnS w base v.dv vs e.dl
structure OwnE (w : World) (base : Nat) (v : Value) (vs : List Ev) (es : List En) : Prop where
  row : lyE.Own w base v vs
  len : vs.length = es.length
  fit : ∀ (i : Nat) x e, vs[i]? = some x → es[i]? = some e → FitE w base x e
theorem OwnE.nil (w : World) (base : Nat) : OwnE w base (.slice none 0 0) [] [] := ⟨Ly.Own.nil w base, rfl, fun i x s h => by simp at h⟩
theorem FitE.below {w w' : World} {base : Nat} {v : Ev} {e : En} (h : FitE w base v e) (hb : Below w.heap.size w w') : FitE w' base v e := by
  obtain ⟨a1, a2, a3, vs, a4⟩ := h
  exact ⟨a1, a2, a3.below hb, vs, a4.below hb⟩
theorem OwnE.below {w w' : World} {base : Nat} {v : Value} {vs : List Ev} {es : List En} (h : OwnE w base v vs es) (hb : Below w.heap.size w w') : OwnE w' base v vs es :=
  ⟨h.row.below hb, h.len, fun i x s hx hs => (h.fit i x s hx hs).below hb⟩
theorem FitE.kept {w w' : World} {base g : Nat} {v : Ev} {m : En} {c : Array Value} {e : TypeId} (h : FitE w base v m) (hg : w.grownBy w' (some g)) (hc : w.heap[g]? = some (.cells c e (0, 0))) (h2 : e ≠ 42) (h3 : e ≠ 45) (h4 : e ≠ 3) : FitE w' base v m := by
  obtain ⟨a1, a2, a3, vs, a4⟩ := h
  exact ⟨a1, a2, compsOwn_kept a3 hg hc h2, vs, a4.kept hg hc h3 h4⟩
theorem OwnE.kept {w w' : World} {base g : Nat} {v : Value} {vs : List Ev} {es : List En} {c : Array Value} {e : TypeId} (h : OwnE w base v vs es) (hg : w.grownBy w' (some g)) (hc : w.heap[g]? = some (.cells c e (0, 0))) (h1 : e ≠ 48) (h2 : e ≠ 42) (h3 : e ≠ 45) (h4 : e ≠ 3) : OwnE w' base v vs es :=
  ⟨h.row.kept hg (fun k hk => by
      obtain ⟨cur, hcur⟩ := h.row.obj hk
      intro e0; cases e0
      exact type_ne hc hcur h1 rfl), h.len, fun i x s hx hs => (h.fit i x s hx hs).kept hg hc h2 h3 h4⟩
theorem FitE.mono {w : World} {base base' : Nat} {v : Ev} {m : En} (h : FitE w base v m) (hb : base' ≤ base) : FitE w base' v m := by
  obtain ⟨a1, a2, a3, vs, a4⟩ := h
  exact ⟨a1, a2, a3.mono hb, vs, a4.mono hb⟩
/-- What is no row of entries stays, where a row of entries is written. -/
theorem FitE.past {w w' : World} {base base2 : Nat} {v : Ev} {m : En} {nv : Value} {vs : List Ev} (h : FitE w base v m) (ho : lyE.Own w base2 nv vs) (hg : w.grownBy w' nv.ownBlock) : FitE w' base v m := by
  cases hb : nv.ownBlock with
  | none =>
    rw [hb] at hg
    exact h.below ⟨hg.os, hg.tape, hg.output, hg.size, fun k hk => hg.block k hk (by simp)⟩
  | some g =>
    rw [hb] at hg
    obtain ⟨c, hc⟩ := ho.obj hb
    exact h.kept hg hc (by decide) (by decide) (by decide)
theorem OwnE.pushK {W w' : World} {base : Nat} {nv nv' : Value} {vs : List Ev} {es : List En} (h : OwnE W base nv vs es) (hg : W.grownBy w' nv.ownBlock) (v : Ev) (e : En) (hv : FitE W base v e) (ho : lyE.Own w' base nv' (vs ++ [v])) : OwnE w' base nv' (vs ++ [v]) (es ++ [e]) := by
  have hl := h.len
  refine ⟨ho, by rw [List.length_append, List.length_append, hl]; rfl, fun i x m hx hm => ?_⟩
  by_cases hi : i < vs.length
  · rw [List.getElem?_append_left hi] at hx
    rw [List.getElem?_append_left (by omega)] at hm
    exact (h.fit i x m hx hm).past h.row hg
  · have hi2 : i = vs.length := by have := (List.getElem?_eq_some_iff.1 hx).1; simp at this; omega
    subst hi2
    rw [List.getElem?_append_right (Nat.le_refl _), Nat.sub_self] at hx
    rw [List.getElem?_append_right (by omega), hl, Nat.sub_self] at hm
    simp at hx hm
    subst hx; subst hm
    exact hv.past h.row hg
theorem OwnE.read {w : World} {base n cap : Nat} {p : Option Addr} {vs : List Ev} {es : List En} (h : OwnE w base (.slice p n cap) vs es) : EntsR w p es := fun i e hi => by
  have hl : i < vs.length := by rw [h.len]; exact (List.getElem?_eq_some_iff.1 hi).1
  have hv := List.getElem?_eq_getElem hl
  obtain ⟨a, b, c, us, d⟩ := h.fit i _ e hv hi
  obtain ⟨g, o, hp, hat⟩ := h.row.row i _ hv
  generalize vs[i] = v at *
  obtain ⟨vcl, vsq, vep, ven, vec, vdp, vdn, vdc⟩ := v
  unfold Ev.ev at c
  unfold Ev.dv at d
  dsimp only at a b c d
  obtain ⟨kp, kc, hkv⟩ := c.form
  cases hkv
  obtain ⟨kp2, kc2, hkv2⟩ := d.row.form
  cases hkv2
  have hlen : us.length = e.dl.length := d.len
  subst a b
  refine ⟨g, o, vep, vec, vdp, vdc, hp, ?_, own_rowC c, d.read⟩
  rw [← hlen]
  exact hat

end Go.Proofs.YtjmfjlffcopnnaaDoor

namespace Go.Proofs.YtjmfjlffcopnnaaDoor
open Go.RowKit
open Go.Proofs.YtjmfjlffcopnnaaDoor.K (C RowC)

theorem SpS.touch {B : Nat → Prop} {w w' : World} {base n : Nat} {v : Value} {vs : List Sv} (h : SpS w base v n vs) (ht : Touch B w w') (hv : ∀ g, v.ownBlock = some g → ¬ B g) (hk : ∀ x ∈ vs, ∀ g, x.kv.ownBlock = some g → ¬ B g) : SpS w' base v n vs :=
  ⟨h.row.touch ht hv, h.len, fun i x hx => by
    obtain ⟨l, hl⟩ := h.kids i x hx
    exact ⟨l, hl.touch ht (hk x (List.mem_of_getElem? hx))⟩, h.apart⟩
theorem SpS.types {w w' : World} {base n g : Nat} {v : Value} {vs : List Sv} {c : Array Value} {e : TypeId} (h : SpS w base v n vs) (hg : w.grownBy w' (some g)) (hc : w.heap[g]? = some (.cells c e (0, 0))) (h1 : e ≠ 45) (h2 : e ≠ 3) : SpS w' base v n vs :=
  ⟨h.row.kept hg (fun k hk => by
      obtain ⟨cur, hcur⟩ := h.row.obj hk
      intro e0; cases e0
      exact type_ne hc hcur h1 rfl), h.len, fun i x hx => by
    obtain ⟨l, hl⟩ := h.kids i x hx
    exact ⟨l, hl.kept hg (fun k hk => by
      obtain ⟨cur, hcur⟩ := hl.obj hk
      intro e0; cases e0
      exact type_ne hc hcur h2 rfl)⟩, h.apart⟩
/-- A row of entries that may be written over, from one of them on; each entry's blocks are its own. -/
structure SpE (w : World) (base : Nat) (v : Value) (n : Nat) (B : Nat → Nat → Prop) (i : Nat) (vs : List Ev) : Prop where
  row : lyE.Own w base v vs
  len : vs.length = n
  ed : ∀ (j : Nat) x, i ≤ j → vs[j]? = some x → (∃ l, lyC.Own w base x.ev l ∧ l.length ≤ 4096) ∧ ∀ g, x.ev.ownBlock = some g → B j g
  dl : ∀ (j : Nat) x, i ≤ j → vs[j]? = some x → ∃ us, SpS w base x.dv x.dn us ∧ x.dn ≤ 100000 ∧ (∀ y ∈ us, y.kn ≤ 140737488355328 ∧ ∀ g, y.kv.ownBlock = some g → B j g) ∧ ∀ g, x.dv.ownBlock = some g → B j g
  apart : ∀ (j k g : Nat), j ≠ k → B j g → ¬ B k g
  lo : ∀ (j g : Nat), B j g → base ≤ g
  rowB : ∀ (j g : Nat), v.ownBlock = some g → ¬ B j g
theorem set_seq {vs : List Ev} {i : Nat} {x : Ev} (h : vs[i]? = some x) (u : Int) : (lyE.all vs).take (i * 4 + 1) ++ [.int .i64 u] ++ (lyE.all vs).drop (i * 4 + 1 + 1) = lyE.all (vs.set i ⟨x.cl, u, x.ep, x.en, x.ec, x.dp, x.dn, x.dc⟩) := by
  obtain ⟨h1, h2⟩ := all_split (L := lyE) h
  obtain ⟨_, hlt⟩ := split_at h
  have h3 : (lyE.all (vs.take i)).length = i * 4 := h2
  have e : lyE.all (⟨x.cl, u, x.ep, x.en, x.ec, x.dp, x.dn, x.dc⟩ :: vs.drop (i + 1)) = Ev.cells ⟨x.cl, u, x.ep, x.en, x.ec, x.dp, x.dn, x.dc⟩ ++ lyE.all (vs.drop (i + 1)) := by simp [Ly.all, lyE]
  rw [h1, List.set_eq_take_append_cons_drop, if_pos hlt, all_app, e]
  clear h1 h2 e
  generalize lyE.all (vs.take i) = A at h3 ⊢
  generalize lyE.all (vs.drop (i + 1)) = B
  rw [List.take_append, List.drop_append, List.take_of_length_le (by omega), List.drop_eq_nil_of_le (by omega), h3, show i * 4 + 1 - i * 4 = 1 by omega, show i * 4 + 1 + 1 - i * 4 = 2 by omega]
  simp [lyE, Ev.cells, Ev.ev, Ev.dv]
theorem SpE.next {w W : World} {base g n cap i : Nat} {B : Nat → Nat → Prop} {vs : List Ev} {x : Ev} (h : SpE w base (.slice (some ⟨g, 0, none⟩) n cap) n B i vs) (hx : vs[i]? = some x) (ht : Touch (B i) w W) (u : Int) :
    SpE (W.setCell ⟨g, i * 4 + 1, none⟩ (.int .i64 u)) base (.slice (some ⟨g, 0, none⟩) n cap) n B (i + 1) (vs.set i ⟨x.cl, u, x.ep, x.en, x.ec, x.dp, x.dn, x.dc⟩) := by
  have hil := (List.getElem?_eq_some_iff.1 hx).1
  have hrow : lyE.Own W base (.slice (some ⟨g, 0, none⟩) n cap) vs := h.row.touch ht (h.rowB i)
  obtain ⟨cur, hcur⟩ := hrow.obj (g := g) rfl
  have hle : i * 4 + 1 + 1 ≤ (lyE.all vs).length := by rw [all_len]; show i * 4 + 1 + 1 ≤ vs.length * 4; omega
  have hown := own_setAll [.int .i64 u] (lyE.all vs) (i * 4 + 1) W (by unfold Ly.Own at hrow; rw [h.len] at hrow; exact hrow) hle
  have gs := set_grown W g (i * 4 + 1) (.int .i64 u)
  have part : ∀ (j : Nat) y, i + 1 ≤ j → (vs.set i ⟨x.cl, u, x.ep, x.en, x.ec, x.dp, x.dn, x.dc⟩)[j]? = some y → vs[j]? = some y := fun j y hj hy => by
    rw [List.getElem?_set, if_neg (by omega)] at hy
    exact hy
  refine ⟨?_, by rw [List.length_set]; exact h.len, fun j y hj hy => ?_, fun j y hj hy => ?_, h.apart, h.lo, h.rowB⟩
  · unfold Ly.Own
    rw [List.length_set, h.len, ← set_seq hx u]
    exact hown
  · obtain ⟨⟨l, h1, h2⟩, h3⟩ := h.ed j y (by omega) (part j y hj hy)
    exact ⟨⟨l, compsOwn_kept (h1.touch ht (fun g hg => h.apart j i g (by omega) (h3 g hg))) gs hcur (by decide), h2⟩, h3⟩
  · obtain ⟨us, h1, h2, h3, h4⟩ := h.dl j y (by omega) (part j y hj hy)
    exact ⟨us, (h1.touch ht (fun g hg => h.apart j i g (by omega) (h4 g hg)) (fun x hx g hg => h.apart j i g (by omega) ((h3 x hx).2 g hg))).types gs hcur (by decide) (by decide), h2, h3, h4⟩
theorem SpE.later {w W : World} {base n i : Nat} {v : Value} {B : Nat → Nat → Prop} {vs : List Ev} (h : SpE w base v n B i vs) (hb : Below w.heap.size w W) : SpE W base v n B i vs :=
  ⟨h.row.below hb, h.len, fun j x hj hx => by
    obtain ⟨⟨l, h1, h2⟩, h3⟩ := h.ed j x hj hx
    exact ⟨⟨l, h1.below hb, h2⟩, h3⟩, fun j x hj hx => by
    obtain ⟨us, h1, h2⟩ := h.dl j x hj hx
    exact ⟨us, h1.touch (B := fun _ => False) (Touch.of_below hb) (fun _ _ => id) (fun _ _ _ _ => id), h2⟩, h.apart, h.lo, h.rowB⟩

end Go.Proofs.YtjmfjlffcopnnaaDoor
