/-
  Two trees copied into boxes of the call's own, in whatever order: what stands behind it. No condition.
-/
import Derived.Test.YtmeigoeknjoodaaCo1
import Derived.Test.YtmeigoeknjoodaaRw4
namespace Go.Proofs.Ytmeigoeknjoodaa
open Go.RowKit

/-- A box that is made and not yet filled. -/
theorem box_facts {X W : World} (h : Below X.heap.size X W) {b : Nat} (hx : X.heap[b]? = some (.cells #[.int .i64 0, .int .i64 0, .slice none 0 0] 24 (0, 0))) :
    W.heap[b]? = some (.cells #[.int .i64 0, .int .i64 0, .slice none 0 0] 24 (0, 0)) ∧ W.cell? ⟨b, 0, none⟩ = some (.int .i64 0) ∧ W.cell? ⟨b, 1, none⟩ = some (.int .i64 0) ∧ W.cell? ⟨b, 2, none⟩ = some (.slice none 0 0) ∧ (∀ j, W.frozen? ⟨b, j, none⟩ = false) ∧ b < W.heap.size := by
  have hw := heap_later hx h
  have o := obj_cells hw
  exact ⟨hw, o.1 0 _ rfl, o.1 1 _ rfl, o.1 2 _ rfl, o.2.1, o.2.2⟩

theorem box_elim {X W : World} (h : Below X.heap.size X W) (b : Nat) {G : Prop} (hx : X.heap[b]? = some (.cells #[.int .i64 0, .int .i64 0, .slice none 0 0] 24 (0, 0)))
    (k : W.heap[b]? = some (.cells #[.int .i64 0, .int .i64 0, .slice none 0 0] 24 (0, 0)) → W.cell? ⟨b, 0, none⟩ = some (.int .i64 0) → W.cell? ⟨b, 1, none⟩ = some (.int .i64 0) → W.cell? ⟨b, 2, none⟩ = some (.slice none 0 0) → (∀ j, W.frozen? ⟨b, j, none⟩ = false) → b < W.heap.size → G) : G := by
  obtain ⟨h1, h2, h3, h4, h5, h6⟩ := box_facts h hx
  exact k h1 h2 h3 h4 h5 h6
theorem alloc_size (W : World) (o : Obj) : (W.alloc o).heap.size = W.heap.size + 1 := by simp
theorem drew_heap {W : World} {k : Nat} {o : Obj} (h : W.heap[k]? = some o) : W.drew.heap[k]? = some o := h
theorem drew_size (W : World) : W.drew.heap.size = W.heap.size := rfl
/-- Two trees in boxes. -/
def TwoT (wr W : World) (v1 v2 : Value) (ra na : Int) (A : List Nd) (NA : Nat) (rb nb : Int) (B : List Nd) (NB : Nat) : Prop :=
  ∃ xb yb p1 c1 p2 c2, v1 = .pointer (some ⟨xb, 0, none⟩) ∧ v2 = .pointer (some ⟨yb, 0, none⟩) ∧ W.heap[xb]? = some (.cells #[.int .i64 ra, .int .i64 na, .slice p1 NA c1] 24 (0, 0)) ∧ W.heap[yb]? = some (.cells #[.int .i64 rb, .int .i64 nb, .slice p2 NB c2] 24 (0, 0)) ∧ NodesR W p1 A ∧ NodesR W p2 B ∧ NA ≤ c1 ∧ NB ≤ c2 ∧ Below wr.heap.size wr W

theorem OwnT.cap2 {w : World} {base N cap : Nat} {p : Option Addr} {vs : List Nv} {ns : List Nd} (h : OwnT w base (.slice p N cap) vs ns) : N ≤ cap := by
  rcases h.row.2 with ⟨hv, hn⟩ | ⟨g, c, _, hv, _, _, hnc, _⟩
  · cases hv; exact Nat.le_refl _
  · cases hv; exact hnc
theorem copy_c (ra na : Int) (p : Option Addr) (A : List Nd) (NA cap : Nat) (hA : A.length = NA) (w : World) (h : NodesR w p A) (hl : NA * 56 ≤ 140737488355328) (hk : ∀ x ∈ A, x.kids.length * 8 ≤ 140737488355328) :
    Calls Try.prog 7 #[.agg #[.int .i64 ra, .int .i64 na, .slice p NA cap]] w (fun e w' => ∃ p c vs, e = .returned (.agg #[.int .i64 ra, .int .i64 na, .slice p NA c]) ∧ OwnT w' w.heap.size (.slice p NA c) vs A ∧ NA ≤ c ∧ Below w.heap.size w w') := by
  refine (copyTree_any ra na p A NA cap hA w h hl hk).mono ?_
  rintro e w' ⟨q, c, vs, rfl, ho, hb⟩
  have hc := ho.cap2
  rw [hA] at ho hc ⊢
  exact ⟨q, c, vs, rfl, ho, hc, hb⟩

/-! A box is filled -/
def st3 (w : World) (b : Nat) (v0 v1 v2 : Value) : World := ((w.setCell ⟨b, 0, none⟩ v0).setCell ⟨b, 1, none⟩ v1).setCell ⟨b, 2, none⟩ v2
theorem st3_box {w : World} {b : Nat} {u0 u1 u2 : Value} (h : w.heap[b]? = some (.cells #[u0, u1, u2] 24 (0, 0))) (v0 v1 v2 : Value) : (st3 w b v0 v1 v2).heap[b]? = some (.cells #[v0, v1, v2] 24 (0, 0)) :=
  heap_setCell_at (heap_setCell_at (heap_setCell_at h v0) v1) v2
theorem st3_grown (w : World) (b : Nat) (v0 v1 v2 : Value) : w.grownBy (st3 w b v0 v1 v2) (some b) := grown_set (grown_set (set_grown w b 0 v0) v1) v2
theorem st3_size (w : World) (b : Nat) (v0 v1 v2 : Value) : (st3 w b v0 v1 v2).heap.size = w.heap.size := by simp [st3, World.setCell]
theorem st3_bl {wr w : World} {b : Nat} (h : Bl wr w) (hb : wr.heap.size ≤ b) (v0 v1 v2 : Value) : Bl wr (st3 w b v0 v1 v2) := ((h.set hb v0).set hb v1).set hb v2
theorem st3_other {w : World} {b k : Nat} {o : Obj} (h : w.heap[k]? = some o) (hne : k ≠ b) (v0 v1 v2 : Value) : (st3 w b v0 v1 v2).heap[k]? = some o :=
  ((st3_grown w b v0 v1 v2).block k (Array.getElem?_eq_some_iff.1 h).1 (fun e => hne (Option.some.inj e))).trans h
theorem st3_own {w : World} {base b : Nat} {c : Array Value} {nv : Value} {vs : List Nv} {ns : List Nd} (h : OwnT w base nv vs ns) (hb : w.heap[b]? = some (.cells c 24 (0, 0))) (v0 v1 v2 : Value) : OwnT (st3 w b v0 v1 v2) base nv vs ns :=
  h.kept (st3_grown w b v0 v1 v2) hb (by decide) (by decide)

section
variable {wr w : World} {ra na rb nb : Int} {A B : List Nd} {NA NB c5 c6 base5 base6 b1 b2 : Nat} {p5 p6 : Option Addr} {vs5 vs6 : List Nv}
  (o5 : OwnT w base5 (.slice p5 NA c5) vs5 A) (o6 : OwnT w base6 (.slice p6 NB c6) vs6 B) (l5 : NA ≤ c5) (l6 : NB ≤ c6) (hb : Bl wr w)
include o5 o6 l5 l6 hb
theorem two_st (e1 : w.heap[b1]? = some (.cells #[.int .i64 0, .int .i64 0, .slice none 0 0] 24 (0, 0))) (e2 : w.heap[b2]? = some (.cells #[.int .i64 0, .int .i64 0, .slice none 0 0] 24 (0, 0))) (hne : b1 ≠ b2) (h1 : wr.heap.size ≤ b1) (h2 : wr.heap.size ≤ b2) :
    TwoT wr ((((((w.setCell ⟨b1, 0, none⟩ (.int .i64 ra)).setCell ⟨b1, 1, none⟩ (.int .i64 na)).setCell ⟨b1, 2, none⟩ (.slice p5 NA c5)).setCell ⟨b2, 0, none⟩ (.int .i64 rb)).setCell ⟨b2, 1, none⟩ (.int .i64 nb)).setCell ⟨b2, 2, none⟩ (.slice p6 NB c6)) (.pointer (some ⟨b1, 0, none⟩)) (.pointer (some ⟨b2, 0, none⟩)) ra na A NA rb nb B NB := by
  have e2' := st3_other e2 (Ne.symm hne) (.int .i64 ra) (.int .i64 na) (.slice p5 NA c5)
  exact ⟨b1, b2, p5, c5, p6, c6, rfl, rfl, st3_other (st3_box e1 _ _ _) hne _ _ _, st3_box e2' _ _ _, (st3_own (st3_own o5 e1 _ _ _) e2' _ _ _).read, (st3_own (st3_own o6 e1 _ _ _) e2' _ _ _).read, l5, l6, st3_bl (st3_bl hb h1 _ _ _) h2 _ _ _⟩
theorem two_sa (e1 : w.heap[b1]? = some (.cells #[.int .i64 0, .int .i64 0, .slice none 0 0] 24 (0, 0))) (h1 : wr.heap.size ≤ b1) :
    TwoT wr ((((w.setCell ⟨b1, 0, none⟩ (.int .i64 ra)).setCell ⟨b1, 1, none⟩ (.int .i64 na)).setCell ⟨b1, 2, none⟩ (.slice p5 NA c5)).alloc (.cells #[.int .i64 rb, .int .i64 nb, .slice p6 NB c6] 24)) (.pointer (some ⟨b1, 0, none⟩)) (.pointer (some ⟨w.heap.size, 0, none⟩)) ra na A NA rb nb B NB := by
  have ab := Bl.alloc (Bl.refl (st3 w b1 (.int .i64 ra) (.int .i64 na) (.slice p5 NA c5))) (.cells #[.int .i64 rb, .int .i64 nb, .slice p6 NB c6] 24)
  exact ⟨b1, _, p5, c5, p6, c6, rfl, rfl, heap_old (st3_box e1 _ _ _) _, heap_new (st3_size ..) _ _, ((st3_own o5 e1 _ _ _).below ab).read, ((st3_own o6 e1 _ _ _).below ab).read, l5, l6, (st3_bl hb h1 _ _ _).alloc _⟩
theorem two_sb (e2 : w.heap[b2]? = some (.cells #[.int .i64 0, .int .i64 0, .slice none 0 0] 24 (0, 0))) (h2 : wr.heap.size ≤ b2) :
    TwoT wr ((((w.setCell ⟨b2, 0, none⟩ (.int .i64 rb)).setCell ⟨b2, 1, none⟩ (.int .i64 nb)).setCell ⟨b2, 2, none⟩ (.slice p6 NB c6)).alloc (.cells #[.int .i64 ra, .int .i64 na, .slice p5 NA c5] 24)) (.pointer (some ⟨w.heap.size, 0, none⟩)) (.pointer (some ⟨b2, 0, none⟩)) ra na A NA rb nb B NB := by
  have ab := Bl.alloc (Bl.refl (st3 w b2 (.int .i64 rb) (.int .i64 nb) (.slice p6 NB c6))) (.cells #[.int .i64 ra, .int .i64 na, .slice p5 NA c5] 24)
  exact ⟨_, b2, p5, c5, p6, c6, rfl, rfl, heap_new (st3_size ..) _ _, heap_old (st3_box e2 _ _ _) _, ((st3_own o5 e2 _ _ _).below ab).read, ((st3_own o6 e2 _ _ _).below ab).read, l5, l6, (st3_bl hb h2 _ _ _).alloc _⟩
theorem two_aa : TwoT wr ((w.alloc (.cells #[.int .i64 ra, .int .i64 na, .slice p5 NA c5] 24)).alloc (.cells #[.int .i64 rb, .int .i64 nb, .slice p6 NB c6] 24)) (.pointer (some ⟨w.heap.size, 0, none⟩)) (.pointer (some ⟨w.heap.size + 1, 0, none⟩)) ra na A NA rb nb B NB := by
  have ab := Bl.alloc (Bl.alloc (Bl.refl w) (.cells #[.int .i64 ra, .int .i64 na, .slice p5 NA c5] 24)) (.cells #[.int .i64 rb, .int .i64 nb, .slice p6 NB c6] 24)
  exact ⟨_, _, p5, c5, p6, c6, rfl, rfl, heap_old (heap_new rfl _ _) _, heap_new (alloc_size ..) _ _, (o5.below ab).read, (o6.below ab).read, l5, l6, (hb.alloc _).alloc _⟩
theorem two_ab : TwoT wr ((w.alloc (.cells #[.int .i64 rb, .int .i64 nb, .slice p6 NB c6] 24)).alloc (.cells #[.int .i64 ra, .int .i64 na, .slice p5 NA c5] 24)) (.pointer (some ⟨w.heap.size + 1, 0, none⟩)) (.pointer (some ⟨w.heap.size, 0, none⟩)) ra na A NA rb nb B NB := by
  have ab := Bl.alloc (Bl.alloc (Bl.refl w) (.cells #[.int .i64 rb, .int .i64 nb, .slice p6 NB c6] 24)) (.cells #[.int .i64 ra, .int .i64 na, .slice p5 NA c5] 24)
  exact ⟨_, _, p5, c5, p6, c6, rfl, rfl, heap_new (alloc_size ..) _ _, heap_old (heap_new rfl _ _) _, (o5.below ab).read, (o6.below ab).read, l5, l6, (hb.alloc _).alloc _⟩
end

end Go.Proofs.Ytmeigoeknjoodaa
