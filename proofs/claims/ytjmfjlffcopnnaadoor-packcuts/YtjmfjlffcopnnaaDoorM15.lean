/-
  MyR, MyS, in one text. Conditions: as each theorem's premises say.
-/
import Derived.Test.YtjmfjlffcopnnaaDoorRwA
import Derived.Test.YtjmfjlffcopnnaaDoorMyB
import Derived.Laws.OwnMore
namespace Go.Proofs.YtjmfjlffcopnnaaDoor
open Go.RowKit

/-- The region number n of a text. -/
def regOf (n : Nat) : Code → Option Code
  | .region m l d => if m = n then some (.region m l d) else none
  | .block _ c => regOf n c
  | .loop c => regOf n c
  | .seq a b => match regOf n a with
    | some c => some c
    | none => regOf n b
  | .cond _ a b => match regOf n a with
    | some c => some c
    | none => regOf n b
  | .scope c => regOf n c
  | _ => none
/-- Is something wrong with a node by itself or the one ahead of it? -/
def badB (next size : Int) (i : Nat) (pid id kd fr tt : Int) (kn : Nat) : Bool :=
  decide (id < 0) || (decide (next ≤ id) || ((decide (0 < i) && decide (id ≤ pid)) || (decide (kd < 0) || (decide (7 < kd) || (decide (fr < 0) || (decide (tt < fr) || (decide (size < tt) || (leafK kd && decide (0 < kn)))))))))

end Go.Proofs.YtjmfjlffcopnnaaDoor

namespace Go.Proofs.YtjmfjlffcopnnaaDoor
open Go.RowKit

/-- How often each node is a child, so far. -/
def prL (ns : List Nd) (l : List Int) : List Int := (List.range ns.length).map (fun (q : Nat) => ((l.countP (fun c => fdZ ns c == (q : Int)) : Nat) : Int))
theorem prL_len (ns : List Nd) (l : List Int) : (prL ns l).length = ns.length := by simp [prL]
theorem prL_get {ns : List Nd} {l : List Int} {q : Nat} (h : q < ns.length) : (prL ns l)[q]? = some ((l.countP (fun c => fdZ ns c == (q : Int)) : Nat) : Int) := by
  simp [prL, h]
theorem prL_snoc {ns : List Nd} {l : List Int} {c : Int} {q : Nat} (hq : fdZ ns c = (q : Int)) : prL ns (l ++ [c]) = (prL ns l).set q (((l.countP (fun c => fdZ ns c == (q : Int)) : Nat) : Int) + 1) := by
  apply List.ext_getElem?
  intro j
  by_cases hj : j < ns.length
  · rw [prL_get hj, List.getElem?_set]
    by_cases e : q = j
    · subst e
      rw [if_pos rfl, if_pos (by rw [prL_len]; exact hj), List.countP_append, List.countP_singleton, if_pos (by simp [hq])]
      simp
    · rw [if_neg e, prL_get hj, List.countP_append, List.countP_singleton, if_neg (by rw [hq]; simp; omega)]
      simp
  · rw [List.getElem?_eq_none (by rw [prL_len]; omega), List.getElem?_eq_none (by rw [List.length_set, prL_len]; omega)]
theorem prL_zero (ns : List Nd) : prL ns [] = List.replicate ns.length 0 := by
  apply List.ext_getElem?
  intro j
  by_cases hj : j < ns.length
  · rw [prL_get hj]; simp [hj]
  · rw [List.getElem?_eq_none (by rw [prL_len]; omega), List.getElem?_eq_none (by simp; omega)]
theorem may_all {ns : List Nd} {root next size : Int} (h : mayB ns root next size = true) : (∀ x ∈ ns, nodeOk root next size x = true) ∧ risesB ns = true ∧ (∀ x ∈ ns, kidsOk ns (Nd.to x) x.fr x.kids = true) ∧ ns.countP (fun x => x.kd == 0) = 1 ∧ (∀ x ∈ ns, x.kd = 0 ∨ (allKids ns).count x.id = 1) := by
  unfold mayB at h
  simp only [Bool.and_eq_true, decide_eq_true_eq, List.all_eq_true, beq_iff_eq] at h
  obtain ⟨⟨⟨⟨⟨⟨⟨⟨⟨⟨⟨h1, h2⟩, h3⟩, h4⟩, h5⟩, h6⟩, h7⟩, h8⟩, h9⟩, h10⟩, h11⟩, h12⟩ := h
  refine ⟨h7, h8, h9, h10, fun x hx => ?_⟩
  have := h11 x hx
  simpa using this
theorem may_not {ns : List Nd} {root next size : Int} (h : mayB ns root next size = true → False) : mayB ns root next size = false := by
  cases hm : mayB ns root next size with
  | false => rfl
  | true => exact (h hm).elim
theorem rises_two : ∀ {ns : List Nd} {j : Nat} {x y : Nd}, risesB ns = true → ns[j]? = some y → ns[j + 1]? = some x → y.id < x.id
  | [], _, _, _, _, h, _ => by simp at h
  | a :: r, 0, x, y, h, h1, h2 => by
    simp at h1 h2
    subst h1
    exact (rises_cons.1 h).1 x (List.mem_of_getElem? h2)
  | a :: r, j + 1, x, y, h, h1, h2 => by
    simp only [List.getElem?_cons_succ] at h1 h2
    exact rises_two (rises_cons.1 h).2 h1 h2
theorem rises_snoc : ∀ {l : List Nd} {x : Nd}, risesB l = true → (∀ y ∈ l.getLast?, y.id < x.id) → risesB (l ++ [x]) = true
  | [], _, _, _ => rfl
  | [a], x, _, h => by simpa [risesB] using h
  | a :: b :: r, x, h, h2 => by
    have := rises_snoc (l := b :: r) (x := x) (rises_cons.1 h).2 (by simpa using h2)
    simp only [List.cons_append, risesB, Bool.and_eq_true, decide_eq_true_eq] at h this ⊢
    exact ⟨h.1, this⟩
/-- The first so many are right. -/
structure OkI (ns : List Nd) (root next size : Int) (i : Nat) : Prop where
  ok : ∀ (j : Nat) x, j < i → ns[j]? = some x → nodeOk root next size x = true ∧ kidsOk ns (Nd.to x) x.fr x.kids = true
  rise : risesB (ns.take i) = true
theorem OkI.zero (ns : List Nd) (root next size : Int) : OkI ns root next size 0 := ⟨fun j x h => by omega, rfl⟩
/-- The id of the node ahead. -/
def pidOf (ns : List Nd) (i : Nat) : Int := match ns[i - 1]? with
  | some y => y.id
  | none => 0
theorem bad_no {ns : List Nd} {root next size : Int} {i : Nat} {x : Nd} (hx : ns[i]? = some x) (hb : badB next size i (pidOf ns i) x.id x.kd x.fr (Nd.to x) x.kids.length = true) : mayB ns root next size = false := may_not fun h => by
  obtain ⟨h1, h2, -, -, -⟩ := may_all h
  have n1 := h1 x (List.mem_of_getElem? hx)
  unfold nodeOk at n1
  simp only [Bool.and_eq_true, decide_eq_true_eq, Bool.or_eq_true, Bool.not_eq_true'] at n1
  obtain ⟨⟨⟨⟨⟨⟨⟨⟨a1, a2⟩, a3⟩, a4⟩, a5⟩, a6⟩, a7⟩, a8⟩, a9⟩ := n1
  unfold badB at hb
  simp only [Bool.or_eq_true, decide_eq_true_eq, Bool.and_eq_true] at hb
  rcases hb with hb | hb | hb | hb | hb | hb | hb | hb | hb
  · omega
  · omega
  · obtain ⟨b1, b2⟩ := hb
    cases i with
    | zero => omega
    | succ j =>
      have hy := List.getElem?_eq_getElem (l := ns) (i := j) (by have := (List.getElem?_eq_some_iff.1 hx).1; omega)
      have := rises_two h2 hy hx
      unfold pidOf at b2
      rw [show j + 1 - 1 = j from rfl, hy] at b2
      dsimp only at b2
      omega
  · omega
  · omega
  · omega
  · omega
  · omega
  · rcases a8 with a8 | a8
    · rw [hb.1] at a8; cases a8
    · rw [List.isEmpty_iff] at a8
      rw [a8] at hb
      simp at hb
theorem root_no {ns : List Nd} {root next size : Int} {i : Nat} {x : Nd} (hx : ns[i]? = some x) (h0 : x.kd = 0) (hb : ¬ (x.id = root ∧ x.fr = 0 ∧ Nd.to x = size)) : mayB ns root next size = false := may_not fun h => by
  have n1 := (may_all h).1 x (List.mem_of_getElem? hx)
  unfold nodeOk at n1
  simp only [Bool.and_eq_true, decide_eq_true_eq, Bool.or_eq_true, Bool.not_eq_true'] at n1
  rcases n1.2 with e | e
  · rw [h0] at e; cases e
  · exact hb ⟨eq_of_beq e.1.1, eq_of_beq e.1.2, eq_of_beq e.2⟩
theorem kids_no {ns : List Nd} {root next size : Int} {i : Nat} {x : Nd} (hx : ns[i]? = some x) (hk : kidsOk ns (Nd.to x) x.fr x.kids = false) : mayB ns root next size = false := may_not fun h => by
  have := (may_all h).2.2.1 x (List.mem_of_getElem? hx)
  rw [hk] at this; cases this
theorem OkI.next {ns : List Nd} {root next size : Int} {i : Nat} {x : Nd} (h : OkI ns root next size i) (hx : ns[i]? = some x) (hb : badB next size i (pidOf ns i) x.id x.kd x.fr (Nd.to x) x.kids.length = false) (hr : x.kd = 0 → x.id = root ∧ x.fr = 0 ∧ Nd.to x = size) (hk : kidsOk ns (Nd.to x) x.fr x.kids = true) : OkI ns root next size (i + 1) := by
  unfold badB at hb
  simp only [Bool.or_eq_false_iff, decide_eq_false_iff_not, Bool.and_eq_false_iff] at hb
  obtain ⟨b1, b2, b3, b4, b5, b6, b7, b8, b9⟩ := hb
  refine ⟨fun j y hj hy => ?_, ?_⟩
  · by_cases e : j < i
    · exact h.ok j y e hy
    · obtain rfl : j = i := by omega
      rw [hx] at hy
      cases hy
      refine ⟨?_, hk⟩
      unfold nodeOk
      simp only [Bool.and_eq_true, decide_eq_true_eq, Bool.or_eq_true, Bool.not_eq_true']
      refine ⟨⟨⟨⟨⟨⟨⟨⟨by omega, by omega⟩, by omega⟩, by omega⟩, by omega⟩, by omega⟩, by omega⟩, ?_⟩, ?_⟩
      · rcases b9 with b9 | b9
        · exact .inl b9
        · refine .inr (List.isEmpty_iff.2 (List.eq_nil_of_length_eq_zero (by omega)))
      · by_cases e0 : x.kd = 0
        · obtain ⟨c1, c2, c3⟩ := hr e0
          exact .inr ⟨⟨by rw [c1]; simp, by rw [c2]; rfl⟩, by rw [c3]; simp⟩
        · exact .inl (beq_eq_false_iff_ne.2 e0)
  · rw [List.take_add_one, hx]
    refine rises_snoc h.rise ?_
    intro y hy
    have hl := (List.getElem?_eq_some_iff.1 hx).1
    rw [List.getLast?_eq_getElem?, List.length_take, Nat.min_eq_left (by omega)] at hy
    cases i with
    | zero => simp at hy
    | succ j =>
      have hyj := List.getElem?_eq_getElem (l := ns) (i := j) (by omega)
      rw [List.getElem?_take_of_lt (by omega), show j + 1 - 1 = j from rfl, hyj] at hy
      cases hy
      rcases b3 with b3 | b3
      · omega
      · unfold pidOf at b3
        rw [show j + 1 - 1 = j from rfl, hyj] at b3
        dsimp only at b3
        omega
theorem kids_step {kids : List Int} {j : Nat} {c : Int} (hc : kids[j]? = some c) : kids.drop j = c :: kids.drop (j + 1) := by
  obtain ⟨hl, he⟩ := List.getElem?_eq_some_iff.1 hc
  rw [List.drop_eq_getElem_cons hl, he]
theorem kidsOk_none {ns : List Nd} {tt lo c : Int} {r : List Int} (h : getN ns c = none) : kidsOk ns tt lo (c :: r) = false := by
  unfold kidsOk; rw [h]
theorem kidsOk_some {ns : List Nd} {tt lo c : Int} {r : List Int} {y : Nd} (h : getN ns c = some y) : kidsOk ns tt lo (c :: r) = (decide (lo ≤ y.fr) && decide (Nd.to y ≤ tt) && !(y.kd == 0) && kidsOk ns tt (Nd.to y) r) := by
  conv => lhs; unfold kidsOk
  rw [h]
theorem get_at {ns : List Nd} (hr : risesB ns = true) {q : Nat} {x : Nd} (hx : ns[q]? = some x) : getN ns x.id = some x ∧ fdZ ns x.id = (q : Int) := by
  have hn := rises_nodup hr
  have hg := get_mem hn (List.mem_of_getElem? hx)
  refine ⟨hg, ?_⟩
  rcases fd_cases ns x.id with ⟨k, y, h1, h2, h3, h4⟩ | ⟨_, h2⟩
  · rw [h1]
    have hk := (List.getElem?_eq_some_iff.1 h2).1
    have hq := (List.getElem?_eq_some_iff.1 hx).1
    have e1 : (ns.map Nd.id)[k]? = some x.id := by rw [List.getElem?_map, h2]; simp [h3]
    have e2 : (ns.map Nd.id)[q]? = some x.id := by rw [List.getElem?_map, hx]; rfl
    have := (List.getElem?_inj (by simpa using hk) hn).1 (e1.trans e2.symm)
    rw [this]
  · rw [hg] at h2; cases h2
theorem prL_count {ns : List Nd} (hr : risesB ns = true) {q : Nat} {x : Nd} (hx : ns[q]? = some x) (l : List Int) : l.countP (fun c => fdZ ns c == (q : Int)) = l.count x.id := by
  unfold List.count
  apply List.countP_congr
  intro c _
  obtain ⟨hg, hz⟩ := get_at hr hx
  simp only [beq_iff_eq]
  constructor
  · intro h
    rcases fd_cases ns c with ⟨k, y, h1, h2, h3, h4⟩ | ⟨h1, _⟩
    · rw [h1] at h
      have : k = q := by omega
      subst this
      rw [hx] at h2
      cases h2
      exact h3.symm
    · rw [h1] at h; omega
  · intro h
    rw [h]; exact hz
/-- All that TreeMay asks ahead of its last line. -/
structure OkA (ns : List Nd) (root next size : Int) : Prop where
  ok : ∀ x ∈ ns, nodeOk root next size x = true
  kids : ∀ x ∈ ns, kidsOk ns (Nd.to x) x.fr x.kids = true
  rise : risesB ns = true
theorem OkI.all {ns : List Nd} {root next size : Int} {i : Nat} (h : OkI ns root next size i) (hi : ns.length ≤ i) : OkA ns root next size := by
  have key : ∀ x ∈ ns, nodeOk root next size x = true ∧ kidsOk ns (Nd.to x) x.fr x.kids = true := fun x hx => by
    obtain ⟨j, hj, e⟩ := List.getElem_of_mem hx
    exact h.ok j x (by omega) (by rw [List.getElem?_eq_getElem hj, e])
  refine ⟨fun x hx => (key x hx).1, fun x hx => (key x hx).2, ?_⟩
  have := h.rise
  rwa [List.take_of_length_le hi] at this
theorem OkA.found {ns : List Nd} {root next size : Int} (h : OkA ns root next size) : ∀ x ∈ ns, ∀ c ∈ x.kids, ∃ z, getN ns c = some z := fun x hx c hc => by
  obtain ⟨z, hz, _⟩ := kids_found (h.kids x hx) c hc
  exact ⟨z, hz⟩
theorem OkA.once {ns : List Nd} {root next size : Int} (h : OkA ns root next size) (h1 : ∀ (q : Nat) x, ns[q]? = some x → x.kd = 0 ∨ (allKids ns).count x.id = 1) : ∀ c, (allKids ns).count c ≤ 1 := fun c => by
  by_cases hm : c ∈ allKids ns
  · obtain ⟨x, hx, hc⟩ := List.mem_flatMap.1 hm
    obtain ⟨z, hz, h0⟩ := kids_found (h.kids x hx) c hc
    obtain ⟨hz1, hz2⟩ := get_some hz
    obtain ⟨q, hq, e⟩ := List.getElem_of_mem hz1
    rcases h1 q z (by rw [List.getElem?_eq_getElem hq, e]) with e0 | e0
    · exact absurd e0 h0
    · rw [← hz2, e0]; exact Nat.le_refl 1
  · rw [List.count_eq_zero.2 hm]; exact Nat.zero_le _
theorem OkA.bound {ns : List Nd} {root next size : Int} (h : OkA ns root next size) (h1 : ∀ (q : Nat) x, ns[q]? = some x → x.kd = 0 ∨ (allKids ns).count x.id = 1) (hl : ns.length ≤ 2048) : ∀ f id, f ≤ ns.length + 1 → reachN ns f id ≤ 1000000000 := fun f id hf => by
  cases hg : getN ns id with
  | none =>
    cases f with
    | zero => exact Nat.zero_le _
    | succ f =>
      have : reachN ns (f + 1) id = 0 := by
        show (match getN ns id with | none => 0 | some x => 1 + (x.kids.map (reachN ns f)).sum) = 0
        rw [hg]
      rw [this]; exact Nat.zero_le _
  | some z =>
    have := reach_bound h.found (h.once h1) f [id] (by simp) (fun c hc => by
      rw [List.mem_singleton] at hc
      exact ⟨z, by rw [hc]; exact hg⟩)
    simp only [List.map_cons, List.map_nil, List.sum_cons, List.sum_nil] at this
    have h2 : f * ns.length ≤ 2049 * 2048 := Nat.mul_le_mul (by omega) hl
    omega
theorem count_no {ns : List Nd} {root next size : Int} {q : Nat} {x : Nd} (hx : ns[q]? = some x) (h0 : ¬ x.kd = 0) (hc : ¬ (allKids ns).count x.id = 1) : mayB ns root next size = false := may_not fun h => by
  rcases (may_all h).2.2.2.2 x (List.mem_of_getElem? hx) with e | e
  · exact h0 e
  · exact hc e
theorem OkA.last {ns : List Nd} {root next size : Int} (h : OkA ns root next size) (h1 : ∀ (q : Nat) x, ns[q]? = some x → x.kd = 0 ∨ (allKids ns).count x.id = 1) (g1 : 1 ≤ ns.length) (g2 : ns.length ≤ 2048) (g3 : 0 ≤ next) (g4 : next ≤ 16777216) (g5 : 0 ≤ size) (g6 : size ≤ 4096) (hr : ns.countP (fun x => x.kd == 0) = 1) : mayB ns root next size = (reachN ns (ns.length + 1) root == ns.length) := by
  have e : mayC ns root next size = true := by
    unfold mayC
    simp only [Bool.and_eq_true, decide_eq_true_eq, List.all_eq_true, beq_iff_eq, Bool.or_eq_true]
    refine ⟨⟨⟨⟨⟨⟨⟨⟨⟨⟨g1, g2⟩, g3⟩, g4⟩, g5⟩, g6⟩, h.ok⟩, h.rise⟩, h.kids⟩, hr⟩, fun x hx => ?_⟩
    obtain ⟨q, hq, e⟩ := List.getElem_of_mem hx
    exact h1 q x (by rw [List.getElem?_eq_getElem hq, e])
  rw [mayB_is, e, Bool.true_and]
theorem OkA.root {ns : List Nd} {root next size : Int} (h : OkA ns root next size) (hr : ns.countP (fun x => x.kd == 0) = 1) : ∃ (q : Nat) (x : Nd), ns[q]? = some x ∧ x.id = root ∧ fdZ ns root = (q : Int) ∧ getN ns x.id = some x := by
  obtain ⟨x, hx, h0⟩ := List.countP_pos_iff.1 (show 0 < ns.countP (fun x => x.kd == 0) by omega)
  have n1 := h.ok x hx
  unfold nodeOk at n1
  simp only [Bool.and_eq_true, decide_eq_true_eq, Bool.or_eq_true, Bool.not_eq_true'] at n1
  have e : x.id = root := by
    rcases n1.2 with e | e
    · rw [h0] at e; cases e
    · exact eq_of_beq e.1.1
  obtain ⟨q, hq, e2⟩ := List.getElem_of_mem hx
  have hxq : ns[q]? = some x := by rw [List.getElem?_eq_getElem hq, e2]
  obtain ⟨a, b⟩ := get_at h.rise hxq
  exact ⟨q, x, hxq, e, by rw [← e]; exact b, a⟩
theorem roots_no {ns : List Nd} {root next size : Int} (hr : ¬ ns.countP (fun x => x.kd == 0) = 1) : mayB ns root next size = false := may_not fun h => hr (may_all h).2.2.2.1

/-- What TreeMay has made: its tree's box, the parents' row. -/
structure MO (w wr : World) (ns : List Nd) (root next : Int) (p : Option Addr) (N cap : Nat) (l : List Int) : Prop where
  own : lyI.Own wr (w.heap.size + 1) (.slice (some ⟨w.heap.size + 1, 0, none⟩) N N) (prL ns l)
  box : wr.heap[w.heap.size]? = some (.cells #[.int .i64 root, .int .i64 next, .slice p N cap] 26 (0, 0))
  below : Below w.heap.size w wr
theorem MO.later {w wr W : World} {ns : List Nd} {root next : Int} {p : Option Addr} {N cap : Nat} {l : List Int} (h : MO w wr ns root next p N cap l) (hb : Below wr.heap.size wr W) : MO w W ns root next p N cap l :=
  ⟨h.own.below hb, (hb.block _ (Array.getElem?_eq_some_iff.1 h.box).1).trans h.box, h.below.trans (hb.mono h.below.size)⟩
theorem MO.bump {w wr : World} {ns : List Nd} {root next : Int} {p : Option Addr} {N cap : Nat} {l : List Int} (h : MO w wr ns root next p N cap l) {c : Int} {q : Nat} (hq : fdZ ns c = (q : Int)) (hl : q < ns.length) (u : Int) (hu : u = ((l.countP (fun c => fdZ ns c == (q : Int)) : Nat) : Int) + 1) :
    MO w (wr.setCell ⟨w.heap.size + 1, q, none⟩ (.int .i64 u)) ns root next p N cap (l ++ [c]) := by
  subst hu
  have hs := h.own.set (prL_get hl) (((l.countP (fun c => fdZ ns c == (q : Int)) : Nat) : Int) + 1)
  rw [← prL_snoc hq, show q * lyI.sz = q from Nat.mul_one q] at hs
  have hlt := (Array.getElem?_eq_some_iff.1 h.box).1
  refine ⟨hs, ?_, h.below.trans (below_grown (set_grown ..) (by omega) h.below.size)⟩
  exact ((set_grown wr (w.heap.size + 1) q (.int .i64 _)).block w.heap.size hlt (fun e => by have := Option.some.inj e; omega)).trans h.box
theorem MO.par {w wr : World} {ns : List Nd} {root next : Int} {p : Option Addr} {N cap : Nat} {l : List Int} (h : MO w wr ns root next p N cap l) {q : Nat} (hl : q < ns.length) : wr.cell? ⟨w.heap.size + 1, q, none⟩ = some (.int .i64 ((l.countP (fun c => fdZ ns c == (q : Int)) : Nat) : Int)) ∧ wr.frozen? ⟨w.heap.size + 1, q, none⟩ = false := by
  refine ⟨?_, h.own.frozen q⟩
  have := h.own.at (prL_get hl) 0 _ rfl
  rwa [show q * lyI.sz + 0 = q from Nat.mul_one q] at this

end Go.Proofs.YtjmfjlffcopnnaaDoor
