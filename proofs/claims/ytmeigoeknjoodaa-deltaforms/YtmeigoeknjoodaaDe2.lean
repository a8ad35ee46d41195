/-
  What the reference's Delta holds while it goes over two trees: plain facts, and facts of the memory that it makes. No condition.
-/
import Derived.Test.YtmeigoeknjoodaaDe1
namespace Go.Proofs.Ytmeigoeknjoodaa
open Go.RowKit

theorem filter_take {p : Nd → Bool} {f : Nd → St} {b : List Nd} {i : Nat} {x : Nd} (hx : b[i]? = some x) : ((b.take (i + 1)).filter p).map f = ((b.take i).filter p).map f ++ (if p x = true then [f x] else []) := by
  rw [List.take_add_one, hx, List.filter_append, List.map_append]
  congr 1
  by_cases h : p x = true
  · rw [if_pos h]; simp [h]
  · rw [if_neg h]; simp [h]
theorem drops_take {a b : List Nd} {i : Nat} {x : Nd} (hx : a[i]? = some x) : dropsL (a.take (i + 1)) b = dropsL (a.take i) b ++ (if (getN b x.id).isNone = true then [⟨0, x.id, 0, 0, 0, []⟩] else []) := filter_take hx
theorem makes_take {a b : List Nd} {i : Nat} {x : Nd} (hx : b[i]? = some x) : makesL a (b.take (i + 1)) = makesL a (b.take i) ++ (if (getN a x.id).isNone = true then [⟨1, x.id, x.kd, 0, 0, []⟩] else []) := filter_take hx
theorem kids_takeL {a b : List Nd} {i : Nat} {x : Nd} (hx : b[i]? = some x) : kidsL a (b.take (i + 1)) = kidsL a (b.take i) ++ (if (!(x.kids == (wasN a x).kids)) = true then [⟨2, x.id, 0, 0, 0, x.kids⟩] else []) := filter_take hx
theorem spans_take {a b : List Nd} {i : Nat} {x : Nd} (hx : b[i]? = some x) : spansL a (b.take (i + 1)) = spansL a (b.take i) ++ (if (!(x.fr == (wasN a x).fr) || !(Nd.to x == Nd.to (wasN a x))) = true then [⟨3, x.id, 0, x.fr, Nd.to x, []⟩] else []) := filter_take hx
theorem kinds_take {a b : List Nd} {i : Nat} {x : Nd} (hx : b[i]? = some x) : kindsB a (b.take (i + 1)) = (kindsB a (b.take i) && (match getN a x.id with | none => true | some y => y.kd == x.kd)) := by
  rw [List.take_add_one, hx]
  unfold kindsB
  rw [List.all_append]
  congr 1
  simp
  cases getN a x.id <;> rfl
theorem len_filter (p : Nd → Bool) (f : Nd → St) (l : List Nd) : ((l.filter p).map f).length ≤ l.length := by rw [List.length_map]; exact List.length_filter_le p l

theorem wp_onlyN {P : Program} {c : Code} {Q : Exit → Act → World → Prop} {a : Act} {w : World} (h : Code.wp P c (onlyN (fun a w => Q .normal a w)) a w) : Code.wp P c Q a w :=
  Code.wp_mono (fun e a w hq => by
    cases e with
    | normal => exact hq
    | _ => exact hq.elim) h
theorem five_set {w : World} {g : Nat} {a b c d e u0 u1 u2 u3 u4 : Value} {ty : TypeId} (h : w.heap[g]? = some (.cells #[a, b, c, d, e] ty (0, 0))) : (setAll w g 0 [u0, u1, u2, u3, u4]).heap[g]? = some (.cells #[u0, u1, u2, u3, u4] ty (0, 0)) := by
  have h0 := heap_setCell_at (i := 0) h u0
  have h1 := heap_setCell_at (i := 1) h0 u1
  have h2 := heap_setCell_at (i := 2) h1 u2
  have h3 := heap_setCell_at (i := 3) h2 u3
  have h4 := heap_setCell_at (i := 4) h3 u4
  exact h4
/-- A box of another type stays, where a row of steps is written. -/
theorem box_stays {w w' : World} {base k : Nat} {v : Value} {vs : List Sv} {c : Array Value} {ty : TypeId} (ho : lyS.Own w base v vs) (hg : w.grownBy w' v.ownBlock) (h : w.heap[k]? = some (.cells c ty (0, 0))) (hty : ty ≠ 43) : w'.heap[k]? = some (.cells c ty (0, 0)) :=
  (hg.block k (Array.getElem?_eq_some_iff.1 h).1 (fun e => by
    obtain ⟨cur, hcur⟩ := ho.obj e.symm
    exact type_ne h hcur hty rfl)).trans h
/-- Both trees' boxes and the four rows. -/
structure DS (w wr : World) (a : List Nd) (ra na : Int) (pa : Option Addr) (A ca : Nat) (b : List Nd) (rb nb : Int) (pb : Option Addr) (B cb : Nat) (rs : List (Value × List Sv × List St)) : Prop where
  boxA : wr.heap[w.heap.size]? = some (.cells #[.int .i64 ra, .int .i64 na, .slice pa A ca] 24 (0, 0))
  boxB : wr.heap[w.heap.size + 1]? = some (.cells #[.int .i64 rb, .int .i64 nb, .slice pb B cb] 24 (0, 0))
  rows : Rows wr w.heap.size rs
  below : Below w.heap.size w wr
theorem DS.later {w wr W : World} {a : List Nd} {ra na : Int} {pa : Option Addr} {A ca : Nat} {b : List Nd} {rb nb : Int} {pb : Option Addr} {B cb : Nat} {rs : List (Value × List Sv × List St)} (h : DS w wr a ra na pa A ca b rb nb pb B cb rs) (hb : Below wr.heap.size wr W) : DS w W a ra na pa A ca b rb nb pb B cb rs :=
  ⟨(hb.block _ (Array.getElem?_eq_some_iff.1 h.boxA).1).trans h.boxA, (hb.block _ (Array.getElem?_eq_some_iff.1 h.boxB).1).trans h.boxB, h.rows.below hb, h.below.trans (hb.mono h.below.size)⟩
theorem DS.push {w W w' : World} {a : List Nd} {ra na : Int} {pa : Option Addr} {A ca : Nat} {b : List Nd} {rb nb : Int} {pb : Option Addr} {B cb : Nat} {rs rs' : List (Value × List Sv × List St)} (h : DS w W a ra na pa A ca b rb nb pb B cb rs) {k : Nat} {v : Value} {vs : List Sv} {ss : List St} (hk : rs[k]? = some (v, vs, ss)) (hr : Rows w' w.heap.size rs') (hg : W.grownBy w' v.ownBlock) : DS w w' a ra na pa A ca b rb nb pb B cb rs' :=
  ⟨box_stays (h.rows.own k _ hk).row hg h.boxA (by decide), box_stays (h.rows.own k _ hk).row hg h.boxB (by decide), hr, h.below.trans (below_grownN hg (fun g hgg => ((h.rows.own k _ hk).row.lt hgg).1) h.below.size)⟩
/-- A step without children put to its row. -/
theorem push_plain {W w' : World} {base : Nat} {rs : List (Value × List Sv × List St)} {k : Nat} {v v' : Value} {vs : List Sv} {ss : List St} (h : Rows W base rs) (hk : rs[k]? = some (v, vs, ss)) (s : St) (hs : s.kids = []) {M : Nat} (hM : vs.length = M)
    (ho : w'.ownsRow base 43 6 v' (M + 1) (lyS.all vs ++ Sv.cells ⟨s.kd, s.id, s.nd, s.fr, St.to s, none, 0, 0⟩)) (hg : W.grownBy w' v.ownBlock) (hb : v'.ownBlock = v.ownBlock ∨ v'.ownBlock = some W.heap.size) :
    Rows w' base (rs.set k (v', vs ++ [⟨s.kd, s.id, s.nd, s.fr, St.to s, none, 0, 0⟩], ss ++ [s])) := by
  refine h.push hk ?_ hg hb rfl ?_
  · unfold Ly.Own
    rw [List.length_append, hM, List.length_singleton, all_app, all_one]
    exact ho
  · intro i x z hx hz
    cases i with
    | zero =>
      cases hx; cases hz
      refine ⟨rfl, rfl, rfl, rfl, rfl, ?_⟩
      rw [hs]
      exact Ly.Own.nil _ _
    | succ i => simp at hx

end Go.Proofs.Ytmeigoeknjoodaa
