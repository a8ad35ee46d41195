/-
  MyS, MyK, in one text. Conditions: as each theorem's premises say.
-/
import Derived.Test.YtjmfjlffcopnnaaGreatDoorPM11
import Derived.Laws.OwnMore
namespace Go.Proofs.YtjmfjlffcopnnaaGreatDoor
open Go.RowKit

/-- How often each node is a child, so far. -/
def prL (ns : List Nd) (l : List Int) : List Int := (List.range ns.length).map (fun (q : Nat) => ((l.countP (fun c => fdZ ns c == (q : Int)) : Nat) : Int))
theorem prL_len (ns : List Nd) (l : List Int) : (prL ns l).length = ns.length := by simp [prL]
theorem prL_get {ns : List Nd} {l : List Int} {q : Nat} (h : q < ns.length) : (prL ns l)[q]? = some ((l.countP (fun c => fdZ ns c == (q : Int)) : Nat) : Int) := by
  simp [prL, h]
theorem prL_snoc {ns : List Nd} {l : List Int} {c : Int} {q : Nat} (hq : fdZ ns c = (q : Int)) : prL ns (l ++ [c]) = (prL ns l).set q (((l.countP (fun c => fdZ ns c == (q : Int)) : Nat) : Int) + 1) := by
  apply List.ext_getElem?
  intro j
  by_cases hj : j < ns.length
  · rw [prL_get hj, List.getElem?_set]
    by_cases e : q = j
    · subst e
      rw [if_pos rfl, if_pos (by rw [prL_len]; exact hj), List.countP_append, List.countP_singleton, if_pos (by simp [hq])]
      simp
    · rw [if_neg e, prL_get hj, List.countP_append, List.countP_singleton, if_neg (by rw [hq]; simp; omega)]
      simp
  · rw [List.getElem?_eq_none (by rw [prL_len]; omega), List.getElem?_eq_none (by rw [List.length_set, prL_len]; omega)]
theorem prL_zero (ns : List Nd) : prL ns [] = List.replicate ns.length 0 := by
  apply List.ext_getElem?
  intro j
  by_cases hj : j < ns.length
  · rw [prL_get hj]; simp [hj]
  · rw [List.getElem?_eq_none (by rw [prL_len]; omega), List.getElem?_eq_none (by simp; omega)]
theorem may_all {ns : List Nd} {root next size : Int} (h : mayB ns root next size = true) : (∀ x ∈ ns, nodeOk root next size x = true) ∧ risesB ns = true ∧ (∀ x ∈ ns, kidsOk ns (Nd.to x) x.fr x.kids = true) ∧ ns.countP (fun x => x.kd == 0) = 1 ∧ (∀ x ∈ ns, x.kd = 0 ∨ (allKids ns).count x.id = 1) := by
  unfold mayB at h
  simp only [Bool.and_eq_true, decide_eq_true_eq, List.all_eq_true, beq_iff_eq] at h
  obtain ⟨⟨⟨⟨⟨⟨⟨⟨⟨⟨⟨h1, h2⟩, h3⟩, h4⟩, h5⟩, h6⟩, h7⟩, h8⟩, h9⟩, h10⟩, h11⟩, h12⟩ := h
  refine ⟨h7, h8, h9, h10, fun x hx => ?_⟩
  have := h11 x hx
  simpa using this
theorem may_not {ns : List Nd} {root next size : Int} (h : mayB ns root next size = true → False) : mayB ns root next size = false := by
  cases hm : mayB ns root next size with
  | false => rfl
  | true => exact (h hm).elim
theorem rises_two : ∀ {ns : List Nd} {j : Nat} {x y : Nd}, risesB ns = true → ns[j]? = some y → ns[j + 1]? = some x → y.id < x.id
  | [], _, _, _, _, h, _ => by simp at h
  | a :: r, 0, x, y, h, h1, h2 => by
    simp at h1 h2
    subst h1
    exact (rises_cons.1 h).1 x (List.mem_of_getElem? h2)
  | a :: r, j + 1, x, y, h, h1, h2 => by
    simp only [List.getElem?_cons_succ] at h1 h2
    exact rises_two (rises_cons.1 h).2 h1 h2
theorem rises_snoc : ∀ {l : List Nd} {x : Nd}, risesB l = true → (∀ y ∈ l.getLast?, y.id < x.id) → risesB (l ++ [x]) = true
  | [], _, _, _ => rfl
  | [a], x, _, h => by simpa [risesB] using h
  | a :: b :: r, x, h, h2 => by
    have := rises_snoc (l := b :: r) (x := x) (rises_cons.1 h).2 (by simpa using h2)
    simp only [List.cons_append, risesB, Bool.and_eq_true, decide_eq_true_eq] at h this ⊢
    exact ⟨h.1, this⟩
/-- The first so many are right. -/
structure OkI (ns : List Nd) (root next size : Int) (i : Nat) : Prop where
  ok : ∀ (j : Nat) x, j < i → ns[j]? = some x → nodeOk root next size x = true ∧ kidsOk ns (Nd.to x) x.fr x.kids = true
  rise : risesB (ns.take i) = true
theorem OkI.zero (ns : List Nd) (root next size : Int) : OkI ns root next size 0 := ⟨fun j x h => by omega, rfl⟩
/-- The id of the node ahead. -/
def pidOf (ns : List Nd) (i : Nat) : Int := match ns[i - 1]? with
  | some y => y.id
  | none => 0
theorem bad_no {ns : List Nd} {root next size : Int} {i : Nat} {x : Nd} (hx : ns[i]? = some x) (hb : badB next size i (pidOf ns i) x.id x.kd x.fr (Nd.to x) x.kids.length = true) : mayB ns root next size = false := may_not fun h => by
  obtain ⟨h1, h2, -, -, -⟩ := may_all h
  have n1 := h1 x (List.mem_of_getElem? hx)
  unfold nodeOk at n1
  simp only [Bool.and_eq_true, decide_eq_true_eq, Bool.or_eq_true, Bool.not_eq_true'] at n1
  obtain ⟨⟨⟨⟨⟨⟨⟨⟨a1, a2⟩, a3⟩, a4⟩, a5⟩, a6⟩, a7⟩, a8⟩, a9⟩ := n1
  unfold badB at hb
  simp only [Bool.or_eq_true, decide_eq_true_eq, Bool.and_eq_true] at hb
  rcases hb with hb | hb | hb | hb | hb | hb | hb | hb | hb
  · omega
  · omega
  · obtain ⟨b1, b2⟩ := hb
    cases i with
    | zero => omega
    | succ j =>
      have hy := List.getElem?_eq_getElem (l := ns) (i := j) (by have := (List.getElem?_eq_some_iff.1 hx).1; omega)
      have := rises_two h2 hy hx
      unfold pidOf at b2
      rw [show j + 1 - 1 = j from rfl, hy] at b2
      dsimp only at b2
      omega
  · omega
  · omega
  · omega
  · omega
  · omega
  · rcases a8 with a8 | a8
    · rw [hb.1] at a8; cases a8
    · rw [List.isEmpty_iff] at a8
      rw [a8] at hb
      simp at hb
theorem root_no {ns : List Nd} {root next size : Int} {i : Nat} {x : Nd} (hx : ns[i]? = some x) (h0 : x.kd = 0) (hb : ¬ (x.id = root ∧ x.fr = 0 ∧ Nd.to x = size)) : mayB ns root next size = false := may_not fun h => by
  have n1 := (may_all h).1 x (List.mem_of_getElem? hx)
  unfold nodeOk at n1
  simp only [Bool.and_eq_true, decide_eq_true_eq, Bool.or_eq_true, Bool.not_eq_true'] at n1
  rcases n1.2 with e | e
  · rw [h0] at e; cases e
  · exact hb ⟨eq_of_beq e.1.1, eq_of_beq e.1.2, eq_of_beq e.2⟩
theorem kids_no {ns : List Nd} {root next size : Int} {i : Nat} {x : Nd} (hx : ns[i]? = some x) (hk : kidsOk ns (Nd.to x) x.fr x.kids = false) : mayB ns root next size = false := may_not fun h => by
  have := (may_all h).2.2.1 x (List.mem_of_getElem? hx)
  rw [hk] at this; cases this
theorem OkI.next {ns : List Nd} {root next size : Int} {i : Nat} {x : Nd} (h : OkI ns root next size i) (hx : ns[i]? = some x) (hb : badB next size i (pidOf ns i) x.id x.kd x.fr (Nd.to x) x.kids.length = false) (hr : x.kd = 0 → x.id = root ∧ x.fr = 0 ∧ Nd.to x = size) (hk : kidsOk ns (Nd.to x) x.fr x.kids = true) : OkI ns root next size (i + 1) := by
  unfold badB at hb
  simp only [Bool.or_eq_false_iff, decide_eq_false_iff_not, Bool.and_eq_false_iff] at hb
  obtain ⟨b1, b2, b3, b4, b5, b6, b7, b8, b9⟩ := hb
  refine ⟨fun j y hj hy => ?_, ?_⟩
  · by_cases e : j < i
    · exact h.ok j y e hy
    · obtain rfl : j = i := by omega
      rw [hx] at hy
      cases hy
      refine ⟨?_, hk⟩
      unfold nodeOk
      simp only [Bool.and_eq_true, decide_eq_true_eq, Bool.or_eq_true, Bool.not_eq_true']
      refine ⟨⟨⟨⟨⟨⟨⟨⟨by omega, by omega⟩, by omega⟩, by omega⟩, by omega⟩, by omega⟩, by omega⟩, ?_⟩, ?_⟩
      · rcases b9 with b9 | b9
        · exact .inl b9
        · refine .inr (List.isEmpty_iff.2 (List.eq_nil_of_length_eq_zero (by omega)))
      · by_cases e0 : x.kd = 0
        · obtain ⟨c1, c2, c3⟩ := hr e0
          exact .inr ⟨⟨by rw [c1]; simp, by rw [c2]; rfl⟩, by rw [c3]; simp⟩
        · exact .inl (beq_eq_false_iff_ne.2 e0)
  · rw [List.take_add_one, hx]
    refine rises_snoc h.rise ?_
    intro y hy
    have hl := (List.getElem?_eq_some_iff.1 hx).1
    rw [List.getLast?_eq_getElem?, List.length_take, Nat.min_eq_left (by omega)] at hy
    cases i with
    | zero => simp at hy
    | succ j =>
      have hyj := List.getElem?_eq_getElem (l := ns) (i := j) (by omega)
      rw [List.getElem?_take_of_lt (by omega), show j + 1 - 1 = j from rfl, hyj] at hy
      cases hy
      rcases b3 with b3 | b3
      · omega
      · unfold pidOf at b3
        rw [show j + 1 - 1 = j from rfl, hyj] at b3
        dsimp only at b3
        omega
theorem kids_step {kids : List Int} {j : Nat} {c : Int} (hc : kids[j]? = some c) : kids.drop j = c :: kids.drop (j + 1) := by
  obtain ⟨hl, he⟩ := List.getElem?_eq_some_iff.1 hc
  rw [List.drop_eq_getElem_cons hl, he]
theorem kidsOk_none {ns : List Nd} {tt lo c : Int} {r : List Int} (h : getN ns c = none) : kidsOk ns tt lo (c :: r) = false := by
  unfold kidsOk; rw [h]
theorem kidsOk_some {ns : List Nd} {tt lo c : Int} {r : List Int} {y : Nd} (h : getN ns c = some y) : kidsOk ns tt lo (c :: r) = (decide (lo ≤ y.fr) && decide (Nd.to y ≤ tt) && !(y.kd == 0) && kidsOk ns tt (Nd.to y) r) := by
  conv => lhs; unfold kidsOk
  rw [h]
theorem get_at {ns : List Nd} (hr : risesB ns = true) {q : Nat} {x : Nd} (hx : ns[q]? = some x) : getN ns x.id = some x ∧ fdZ ns x.id = (q : Int) := by
  have hn := rises_nodup hr
  have hg := get_mem hn (List.mem_of_getElem? hx)
  refine ⟨hg, ?_⟩
  rcases fd_cases ns x.id with ⟨k, y, h1, h2, h3, h4⟩ | ⟨_, h2⟩
  · rw [h1]
    have hk := (List.getElem?_eq_some_iff.1 h2).1
    have hq := (List.getElem?_eq_some_iff.1 hx).1
    have e1 : (ns.map Nd.id)[k]? = some x.id := by rw [List.getElem?_map, h2]; simp [h3]
    have e2 : (ns.map Nd.id)[q]? = some x.id := by rw [List.getElem?_map, hx]; rfl
    have := (List.getElem?_inj (by simpa using hk) hn).1 (e1.trans e2.symm)
    rw [this]
  · rw [hg] at h2; cases h2
theorem prL_count {ns : List Nd} (hr : risesB ns = true) {q : Nat} {x : Nd} (hx : ns[q]? = some x) (l : List Int) : l.countP (fun c => fdZ ns c == (q : Int)) = l.count x.id := by
  unfold List.count
  apply List.countP_congr
  intro c _
  obtain ⟨hg, hz⟩ := get_at hr hx
  simp only [beq_iff_eq]
  constructor
  · intro h
    rcases fd_cases ns c with ⟨k, y, h1, h2, h3, h4⟩ | ⟨h1, _⟩
    · rw [h1] at h
      have : k = q := by omega
      subst this
      rw [hx] at h2
      cases h2
      exact h3.symm
    · rw [h1] at h; omega
  · intro h
    rw [h]; exact hz
/-- All that TreeMay asks ahead of its last line. -/
structure OkA (ns : List Nd) (root next size : Int) : Prop where
  ok : ∀ x ∈ ns, nodeOk root next size x = true
  kids : ∀ x ∈ ns, kidsOk ns (Nd.to x) x.fr x.kids = true
  rise : risesB ns = true
theorem OkI.all {ns : List Nd} {root next size : Int} {i : Nat} (h : OkI ns root next size i) (hi : ns.length ≤ i) : OkA ns root next size := by
  have key : ∀ x ∈ ns, nodeOk root next size x = true ∧ kidsOk ns (Nd.to x) x.fr x.kids = true := fun x hx => by
    obtain ⟨j, hj, e⟩ := List.getElem_of_mem hx
    exact h.ok j x (by omega) (by rw [List.getElem?_eq_getElem hj, e])
  refine ⟨fun x hx => (key x hx).1, fun x hx => (key x hx).2, ?_⟩
  have := h.rise
  rwa [List.take_of_length_le hi] at this
theorem OkA.found {ns : List Nd} {root next size : Int} (h : OkA ns root next size) : ∀ x ∈ ns, ∀ c ∈ x.kids, ∃ z, getN ns c = some z := fun x hx c hc => by
  obtain ⟨z, hz, _⟩ := kids_found (h.kids x hx) c hc
  exact ⟨z, hz⟩
theorem OkA.once {ns : List Nd} {root next size : Int} (h : OkA ns root next size) (h1 : ∀ (q : Nat) x, ns[q]? = some x → x.kd = 0 ∨ (allKids ns).count x.id = 1) : ∀ c, (allKids ns).count c ≤ 1 := fun c => by
  by_cases hm : c ∈ allKids ns
  · obtain ⟨x, hx, hc⟩ := List.mem_flatMap.1 hm
    obtain ⟨z, hz, h0⟩ := kids_found (h.kids x hx) c hc
    obtain ⟨hz1, hz2⟩ := get_some hz
    obtain ⟨q, hq, e⟩ := List.getElem_of_mem hz1
    rcases h1 q z (by rw [List.getElem?_eq_getElem hq, e]) with e0 | e0
    · exact absurd e0 h0
    · rw [← hz2, e0]; exact Nat.le_refl 1
  · rw [List.count_eq_zero.2 hm]; exact Nat.zero_le _
theorem OkA.bound {ns : List Nd} {root next size : Int} (h : OkA ns root next size) (h1 : ∀ (q : Nat) x, ns[q]? = some x → x.kd = 0 ∨ (allKids ns).count x.id = 1) (hl : ns.length ≤ 2048) : ∀ f id, f ≤ ns.length + 1 → reachN ns f id ≤ 1000000000 := fun f id hf => by
  cases hg : getN ns id with
  | none =>
    cases f with
    | zero => exact Nat.zero_le _
    | succ f =>
      have : reachN ns (f + 1) id = 0 := by
        show (match getN ns id with | none => 0 | some x => 1 + (x.kids.map (reachN ns f)).sum) = 0
        rw [hg]
      rw [this]; exact Nat.zero_le _
  | some z =>
    have := reach_bound h.found (h.once h1) f [id] (by simp) (fun c hc => by
      rw [List.mem_singleton] at hc
      exact ⟨z, by rw [hc]; exact hg⟩)
    simp only [List.map_cons, List.map_nil, List.sum_cons, List.sum_nil] at this
    have h2 : f * ns.length ≤ 2049 * 2048 := Nat.mul_le_mul (by omega) hl
    omega
theorem count_no {ns : List Nd} {root next size : Int} {q : Nat} {x : Nd} (hx : ns[q]? = some x) (h0 : ¬ x.kd = 0) (hc : ¬ (allKids ns).count x.id = 1) : mayB ns root next size = false := may_not fun h => by
  rcases (may_all h).2.2.2.2 x (List.mem_of_getElem? hx) with e | e
  · exact h0 e
  · exact hc e
theorem OkA.last {ns : List Nd} {root next size : Int} (h : OkA ns root next size) (h1 : ∀ (q : Nat) x, ns[q]? = some x → x.kd = 0 ∨ (allKids ns).count x.id = 1) (g1 : 1 ≤ ns.length) (g2 : ns.length ≤ 2048) (g3 : 0 ≤ next) (g4 : next ≤ 16777216) (g5 : 0 ≤ size) (g6 : size ≤ 4096) (hr : ns.countP (fun x => x.kd == 0) = 1) : mayB ns root next size = (reachN ns (ns.length + 1) root == ns.length) := by
  have e : mayC ns root next size = true := by
    unfold mayC
    simp only [Bool.and_eq_true, decide_eq_true_eq, List.all_eq_true, beq_iff_eq, Bool.or_eq_true]
    refine ⟨⟨⟨⟨⟨⟨⟨⟨⟨⟨g1, g2⟩, g3⟩, g4⟩, g5⟩, g6⟩, h.ok⟩, h.rise⟩, h.kids⟩, hr⟩, fun x hx => ?_⟩
    obtain ⟨q, hq, e⟩ := List.getElem_of_mem hx
    exact h1 q x (by rw [List.getElem?_eq_getElem hq, e])
  rw [mayB_is, e, Bool.true_and]
theorem OkA.root {ns : List Nd} {root next size : Int} (h : OkA ns root next size) (hr : ns.countP (fun x => x.kd == 0) = 1) : ∃ (q : Nat) (x : Nd), ns[q]? = some x ∧ x.id = root ∧ fdZ ns root = (q : Int) ∧ getN ns x.id = some x := by
  obtain ⟨x, hx, h0⟩ := List.countP_pos_iff.1 (show 0 < ns.countP (fun x => x.kd == 0) by omega)
  have n1 := h.ok x hx
  unfold nodeOk at n1
  simp only [Bool.and_eq_true, decide_eq_true_eq, Bool.or_eq_true, Bool.not_eq_true'] at n1
  have e : x.id = root := by
    rcases n1.2 with e | e
    · rw [h0] at e; cases e
    · exact eq_of_beq e.1.1
  obtain ⟨q, hq, e2⟩ := List.getElem_of_mem hx
  have hxq : ns[q]? = some x := by rw [List.getElem?_eq_getElem hq, e2]
  obtain ⟨a, b⟩ := get_at h.rise hxq
  exact ⟨q, x, hxq, e, by rw [← e]; exact b, a⟩
theorem roots_no {ns : List Nd} {root next size : Int} (hr : ¬ ns.countP (fun x => x.kd == 0) = 1) : mayB ns root next size = false := may_not fun h => hr (may_all h).2.2.2.1

/-- What TreeMay has made: its tree's box, the parents' row. -/
structure MO (w wr : World) (ns : List Nd) (root next : Int) (p : Option Addr) (N cap : Nat) (l : List Int) : Prop where
  own : lyI.Own wr (w.heap.size + 1) (.slice (some ⟨w.heap.size + 1, 0, none⟩) N N) (prL ns l)
  box : wr.heap[w.heap.size]? = some (.cells #[.int .i64 root, .int .i64 next, .slice p N cap] 26 (0, 0))
  below : Below w.heap.size w wr
theorem MO.later {w wr W : World} {ns : List Nd} {root next : Int} {p : Option Addr} {N cap : Nat} {l : List Int} (h : MO w wr ns root next p N cap l) (hb : Below wr.heap.size wr W) : MO w W ns root next p N cap l :=
  ⟨h.own.below hb, (hb.block _ (Array.getElem?_eq_some_iff.1 h.box).1).trans h.box, h.below.trans (hb.mono h.below.size)⟩
theorem MO.bump {w wr : World} {ns : List Nd} {root next : Int} {p : Option Addr} {N cap : Nat} {l : List Int} (h : MO w wr ns root next p N cap l) {c : Int} {q : Nat} (hq : fdZ ns c = (q : Int)) (hl : q < ns.length) (u : Int) (hu : u = ((l.countP (fun c => fdZ ns c == (q : Int)) : Nat) : Int) + 1) :
    MO w (wr.setCell ⟨w.heap.size + 1, q, none⟩ (.int .i64 u)) ns root next p N cap (l ++ [c]) := by
  subst hu
  have hs := h.own.set (prL_get hl) (((l.countP (fun c => fdZ ns c == (q : Int)) : Nat) : Int) + 1)
  rw [← prL_snoc hq, show q * lyI.sz = q from Nat.mul_one q] at hs
  have hlt := (Array.getElem?_eq_some_iff.1 h.box).1
  refine ⟨hs, ?_, h.below.trans (below_grown (set_grown ..) (by omega) h.below.size)⟩
  exact ((set_grown wr (w.heap.size + 1) q (.int .i64 _)).block w.heap.size hlt (fun e => by have := Option.some.inj e; omega)).trans h.box
theorem MO.par {w wr : World} {ns : List Nd} {root next : Int} {p : Option Addr} {N cap : Nat} {l : List Int} (h : MO w wr ns root next p N cap l) {q : Nat} (hl : q < ns.length) : wr.cell? ⟨w.heap.size + 1, q, none⟩ = some (.int .i64 ((l.countP (fun c => fdZ ns c == (q : Int)) : Nat) : Int)) ∧ wr.frozen? ⟨w.heap.size + 1, q, none⟩ = false := by
  refine ⟨?_, h.own.frozen q⟩
  have := h.own.at (prL_get hl) 0 _ rfl
  rwa [show q * lyI.sz + 0 = q from Nat.mul_one q] at this

end Go.Proofs.YtjmfjlffcopnnaaGreatDoor

namespace Go.Proofs.YtjmfjlffcopnnaaGreatDoor
open Go.RowKit

/-- The block number n of a text. -/
def blockOf (n : Nat) : Code → Option Code
  | .block m c => if m = n then some (.block m c) else blockOf n c
  | .loop c => blockOf n c
  | .seq a b => match blockOf n a with
    | some c => some c
    | none => blockOf n b
  | .cond _ a b => match blockOf n a with
    | some c => some c
    | none => blockOf n b
  | .scope c => blockOf n c
  | _ => none
noncomputable def mayK : Code := (Tryz.f48.body.bind (blockOf 2)).getD .skip
/-- The memory of the loop: TreeMay's own, and the node's box. -/
structure MX (w wr : World) (ns : List Nd) (root next : Int) (p : Option Addr) (N cap : Nat) (l : List Int) (xb : Nat) (x : Nd) (kp : Option Addr) (kc : Nat) : Prop where
  mo : MO w wr ns root next p N cap l
  xbx : wr.heap[xb]? = some (.cells #[.int .i64 x.id, .int .i64 x.kd, .int .i64 x.fr, .int .i64 (Nd.to x), .slice kp x.kids.length kc] 109 (0, 0))
theorem MX.later {w wr W : World} {ns : List Nd} {root next : Int} {p : Option Addr} {N cap : Nat} {l : List Int} {xb : Nat} {x : Nd} {kp : Option Addr} {kc : Nat} (h : MX w wr ns root next p N cap l xb x kp kc) (hb : Below wr.heap.size wr W) : MX w W ns root next p N cap l xb x kp kc :=
  ⟨h.mo.later hb, (hb.block _ (Array.getElem?_eq_some_iff.1 h.xbx).1).trans h.xbx⟩
theorem MX.bump {w wr : World} {ns : List Nd} {root next : Int} {p : Option Addr} {N cap : Nat} {l : List Int} {xb : Nat} {x : Nd} {kp : Option Addr} {kc : Nat} (h : MX w wr ns root next p N cap l xb x kp kc) {c : Int} {q : Nat} (hq : fdZ ns c = (q : Int)) (hl : q < ns.length) (u : Int) (hu : u = ((l.countP (fun c => fdZ ns c == (q : Int)) : Nat) : Int) + 1) :
    MX w (wr.setCell ⟨w.heap.size + 1, q, none⟩ (.int .i64 u)) ns root next p N cap (l ++ [c]) xb x kp kc := by
  refine ⟨h.mo.bump hq hl u hu, ?_⟩
  obtain ⟨cur, hcur⟩ := h.mo.own.obj rfl
  have hne := type_ne h.xbx hcur (by decide)
  exact ((set_grown wr (w.heap.size + 1) q (.int .i64 u)).block xb (Array.getElem?_eq_some_iff.1 h.xbx).1 (fun e => hne (Option.some.inj e))).trans h.xbx

set_option maxRecDepth 1000000 in
set_option maxHeartbeats 8000000 in
theorem mayK_any (ns : List Nd) (root next : Int) (p : Option Addr) (N cap xb : Nat) (x : Nd) (kp : Option Addr) (kc : Nat) (l : List Int) (lo0 : Int) (w w0 : World) (Q : Exit → Act → World → Prop) (u0 u1 u3 u4 u5 u6 u8 u12 u13 u14 u15 u16 u17 u18 u19 u20 u21 u22 u23 u24 u25 u26 u27 u28 u29 u30 u31 u32 u33 u34 u35 u36 u37 u38 u39 u40 u41 u42 u43 u44 u45 u46 u47 u48 u49 u50 u51 u52 u53 u54 u55 u56 u57 u58 u59 u60 u61 u62 u63 u64 u65 u66 u67 u68 u69 u70 u71 u72 u73 u74 u75 u76 u77 u78 u79 u80 u81 u82 u83 u84 u85 u86 u87 u88 u89 u90 u91 u92 u93 u94 u95 u96 u97 u98 u99 u100 u101 u102 u103 u104 u105 u106 u107 u108 u109 u110 u111 u112 u113 u114 u115 u116 u117 u118 u119 u120 u121 u122 u123 u124 u125 u126 u127 u128 u129 u130 u131 u132 u133 u134 u135 u136 u137 u138 u139 u140 u141 u142 u143 u144 u145 u146 u147 u148 u149 u150 u151 u152 u153 u154 u155 u156 u157 u158 u159 u160 u161 u162 u163 u164 u165 u166 u167 u168 u169 u170 u171 u172 u173 u174 u175 u176 u177 u178 u179 u180 u181 u182 u183 u184 u185 u186 u187 u188 u189 u190 u191 u192 u193 u194 u195 u196 u197 u198 u199 u200 u201 u202 u203 u204 u205 u206 u207 u208 u209 u210 u211 u212 u213 u214 u215 u216 u217 u218 u219 u220 u221 u222 u223 u224 u225 u226 u227 u228 u229 u230 u231 : Value)
    (HN : Hid (ns.length = N)) (hN : N ≤ 4096) (R : Hid (NodesR w p ns)) (M : Hid (MX w w0 ns root next p N cap l xb x kp kc)) (ROW : Hid (lyI.Row w kp x.kids)) (hkl : x.kids.length ≤ 140737488355328) (HL : Hid (lo0 = x.fr)) (LL : Hid (l.length + x.kids.length ≤ 1000000000000000000))
    (HQ : Hid (∀ (w' : World), kidsOk ns (Nd.to x) x.fr x.kids = true → MO w w' ns root next p N cap (l ++ x.kids) → ∀ (v4 v10 v11 v12 v141 v142 v143 v144 v145 v146 v147 v148 v149 v150 v151 v152 v153 v154 v155 v156 v157 v158 v159 v160 v161 v162 v163 v164 v165 v166 v167 v168 v169 v170 v171 v172 v173 v174 v175 v176 v177 v178 v179 v180 v181 v182 v183 v184 v185 v186 v187 v188 v189 v190 v191 v192 v193 v194 v195 v196 v197 v198 v199 v200 : Value), Q .normal ⟨#[u0, u1, .pointer (some ⟨w.heap.size, 0, none⟩), u3, v4, u5, u6, .slice (some ⟨w.heap.size + 1, 0, none⟩) N N, u8, .pointer (some ⟨xb, 0, none⟩), v10, v11, v12, u13, u14, u15, u16, u17, u18, u19, u20, u21, u22, u23, u24, u25, u26, u27, u28, u29, u30, u31, u32, u33, u34, u35, u36, u37, u38, u39, u40, u41, u42, u43, u44, u45, u46, u47, u48, u49, u50, u51, u52, u53, u54, u55, u56, u57, u58, u59, u60, u61, u62, u63, u64, u65, u66, u67, u68, u69, u70, u71, u72, u73, u74, u75, u76, u77, u78, u79, u80, u81, u82, u83, u84, u85, u86, u87, u88, u89, u90, u91, u92, u93, u94, u95, u96, u97, u98, u99, u100, u101, u102, u103, u104, u105, u106, u107, u108, u109, u110, u111, u112, u113, u114, u115, u116, u117, u118, u119, u120, u121, u122, u123, u124, u125, u126, u127, u128, u129, u130, u131, u132, u133, u134, u135, u136, u137, u138, u139, u140, v141, v142, v143, v144, v145, v146, v147, v148, v149, v150, v151, v152, v153, v154, v155, v156, v157, v158, v159, v160, v161, v162, v163, v164, v165, v166, v167, v168, v169, v170, v171, v172, v173, v174, v175, v176, v177, v178, v179, v180, v181, v182, v183, v184, v185, v186, v187, v188, v189, v190, v191, v192, v193, v194, v195, v196, v197, v198, v199, v200, u201, u202, u203, u204, u205, u206, u207, u208, u209, u210, u211, u212, u213, u214, u215, u216, u217, u218, u219, u220, u221, u222, u223, u224, u225, u226, u227, u228, u229, u230, u231], []⟩ w'))
    (HR : Hid (∀ (w' : World), kidsOk ns (Nd.to x) x.fr x.kids = false → ∀ (v10 v11 v12 v141 v142 v143 v144 v145 v146 v147 v148 v149 v150 v151 v152 v153 v154 v155 v156 v157 v158 v159 v160 v161 v162 v163 v164 v165 v166 v167 v168 v169 v170 v171 v172 v173 v174 v175 v176 v177 v178 v179 v180 v181 v182 v183 v184 v185 v186 v187 v188 v189 v190 v191 v192 v193 v194 v195 v196 v197 v198 v199 v200 : Value), Below w.heap.size w w' → Q .ret ⟨#[u0, u1, .pointer (some ⟨w.heap.size, 0, none⟩), u3, .bool false, u5, u6, .slice (some ⟨w.heap.size + 1, 0, none⟩) N N, u8, .pointer (some ⟨xb, 0, none⟩), v10, v11, v12, u13, u14, u15, u16, u17, u18, u19, u20, u21, u22, u23, u24, u25, u26, u27, u28, u29, u30, u31, u32, u33, u34, u35, u36, u37, u38, u39, u40, u41, u42, u43, u44, u45, u46, u47, u48, u49, u50, u51, u52, u53, u54, u55, u56, u57, u58, u59, u60, u61, u62, u63, u64, u65, u66, u67, u68, u69, u70, u71, u72, u73, u74, u75, u76, u77, u78, u79, u80, u81, u82, u83, u84, u85, u86, u87, u88, u89, u90, u91, u92, u93, u94, u95, u96, u97, u98, u99, u100, u101, u102, u103, u104, u105, u106, u107, u108, u109, u110, u111, u112, u113, u114, u115, u116, u117, u118, u119, u120, u121, u122, u123, u124, u125, u126, u127, u128, u129, u130, u131, u132, u133, u134, u135, u136, u137, u138, u139, u140, v141, v142, v143, v144, v145, v146, v147, v148, v149, v150, v151, v152, v153, v154, v155, v156, v157, v158, v159, v160, v161, v162, v163, v164, v165, v166, v167, v168, v169, v170, v171, v172, v173, v174, v175, v176, v177, v178, v179, v180, v181, v182, v183, v184, v185, v186, v187, v188, v189, v190, v191, v192, v193, v194, v195, v196, v197, v198, v199, v200, u201, u202, u203, u204, u205, u206, u207, u208, u209, u210, u211, u212, u213, u214, u215, u216, u217, u218, u219, u220, u221, u222, u223, u224, u225, u226, u227, u228, u229, u230, u231], []⟩ w')) :
    Code.wp Tryz.prog mayK Q ⟨#[u0, u1, .pointer (some ⟨w.heap.size, 0, none⟩), u3, u4, u5, u6, .slice (some ⟨w.heap.size + 1, 0, none⟩) N N, u8, .pointer (some ⟨xb, 0, none⟩), .int .i64 lo0, .int .i64 0, u12, u13, u14, u15, u16, u17, u18, u19, u20, u21, u22, u23, u24, u25, u26, u27, u28, u29, u30, u31, u32, u33, u34, u35, u36, u37, u38, u39, u40, u41, u42, u43, u44, u45, u46, u47, u48, u49, u50, u51, u52, u53, u54, u55, u56, u57, u58, u59, u60, u61, u62, u63, u64, u65, u66, u67, u68, u69, u70, u71, u72, u73, u74, u75, u76, u77, u78, u79, u80, u81, u82, u83, u84, u85, u86, u87, u88, u89, u90, u91, u92, u93, u94, u95, u96, u97, u98, u99, u100, u101, u102, u103, u104, u105, u106, u107, u108, u109, u110, u111, u112, u113, u114, u115, u116, u117, u118, u119, u120, u121, u122, u123, u124, u125, u126, u127, u128, u129, u130, u131, u132, u133, u134, u135, u136, u137, u138, u139, u140, u141, u142, u143, u144, u145, u146, u147, u148, u149, u150, u151, u152, u153, u154, u155, u156, u157, u158, u159, u160, u161, u162, u163, u164, u165, u166, u167, u168, u169, u170, u171, u172, u173, u174, u175, u176, u177, u178, u179, u180, u181, u182, u183, u184, u185, u186, u187, u188, u189, u190, u191, u192, u193, u194, u195, u196, u197, u198, u199, u200, u201, u202, u203, u204, u205, u206, u207, u208, u209, u210, u211, u212, u213, u214, u215, u216, u217, u218, u219, u220, u221, u222, u223, u224, u225, u226, u227, u228, u229, u230, u231], []⟩ w0 := by
  conv => arg 2; whnf
  have FA := Lib.hid (fun (W : World) (hW : Below w.heap.size w W) (c : Int) => find_any root next p ns N cap HN.out c W (R.out.below hW) (by omega))
  unfold trV at FA
  go_wp2_with fail
  go_loopw [10, 11] (fun a v wc => ∃ (j : Nat) (lo : Int), j ≤ x.kids.length ∧ v = .int .i64 j ∧ a = .int .i64 lo ∧ Hid (kidsOk ns (Nd.to x) x.fr x.kids = kidsOk ns (Nd.to x) lo (x.kids.drop j)) ∧ Hid (MX w wc ns root next p N cap (l ++ x.kids.take j) xb x kp kc)) (fun _ v _ => x.kids.length - (intOf v).toNat)
  case atStart => exact ⟨0, lo0, by omega, rfl, rfl, Lib.hid (by rw [HL.out]; rfl), Lib.hid (by rw [List.take_zero, List.append_nil]; exact M.out)⟩
  case round =>
    clear M
    obtain ⟨j, lo, hj, rfl, rfl, KE, M⟩ := hrel
    have x2 := (obj_cells M.out.xbx).1 2 _ rfl
    have x3 := (obj_cells M.out.xbx).1 3 _ rfl
    have x4 := (obj_cells M.out.xbx).1 4 _ rfl
    have t0 := (obj_cells M.out.mo.box).1 0 _ rfl
    have t1 := (obj_cells M.out.mo.box).1 1 _ rfl
    have t2 := (obj_cells M.out.mo.box).1 2 _ rfl
    by_cases hlt : j < x.kids.length
    · obtain ⟨c, hc⟩ : ∃ c, x.kids[j]? = some c := ⟨_, List.getElem?_eq_getElem hlt⟩
      obtain ⟨kb, ko, rfl, d0⟩ := ints_at ROW.out hc
      have d1 := cell_later M.out.mo.below d0
      have ZD := Lib.hid (kids_step hc)
      have TK : Hid (l ++ x.kids.take (j + 1) = (l ++ x.kids.take j) ++ [c]) := Lib.hid (by rw [List.take_add_one, hc, ← List.append_assoc]; rfl)
      have hj0 : (0 : Int) ≤ (j : Int) := by omega
      have hj1 : (j : Int) < (x.kids.length : Int) := by omega
      have hbn : xb < wr.heap.size := (Array.getElem?_eq_some_iff.1 M.out.xbx).1
      clear hc d0
      go_upto_region 20 with fail
      rcases fd_cases ns c with ⟨q, y, h1, h2, h3, h4⟩ | ⟨h1, h2⟩
      · have hq : q < N := by rw [← HN.out]; exact (List.getElem?_eq_some_iff.1 h2).1
        have HQL := Lib.hid (List.getElem?_eq_some_iff.1 h2).1
        obtain ⟨b, o, kp2, kc2, rfl, hat, -⟩ := R.out q y h2
        have e1 := cell_later M.out.mo.below (show w.cell? ⟨b, o + q * 5 + 1, none⟩ = some (.int .i64 y.kd) from hat 1 _ rfl)
        have e2 := cell_later M.out.mo.below (show w.cell? ⟨b, o + q * 5 + 2, none⟩ = some (.int .i64 y.fr) from hat 2 _ rfl)
        have e3 := cell_later M.out.mo.below (show w.cell? ⟨b, o + q * 5 + 3, none⟩ = some (.int .i64 (Nd.to y)) from hat 3 _ rfl)
        have Y3 : Hid (w.cell? ⟨b, o + q * 5 + 3, none⟩ = some (.int .i64 (Nd.to y))) := Lib.hid (hat 3 _ rfl)
        have FC : Hid (∀ X : Ext wr, Calls Tryz.prog 99 #[.agg #[.int .i64 root, .int .i64 next, .slice (some ⟨b, o, none⟩) N cap], .int .i64 c] X.w (RetBelow (.returned (.int .i64 q)) X.w)) := Lib.hid (fun X => by
          have := FA.out X.w (M.out.mo.below.trans (X.below.mono M.out.mo.below.size)) c
          rw [h1] at this
          exact this)
        have KS := Lib.hid (kidsOk_some (tt := Nd.to x) (lo := lo) (r := x.kids.drop (j + 1)) h4)
        have H1 := Lib.hid h1
        clear h1 h2 h3 h4 hat
        have hq0 : (0 : Int) ≤ (q : Int) := by omega
        have hq1 : (q : Int) < (N : Int) := by omega
        have hqn : ¬ ((q : Int) < 0) := by omega
        have hqd : decide ((q : Int) < 0) = false := decide_eq_false hqn
        have y0 : ∀ X : Ext wr, X.w.cell? ⟨w.heap.size, 0, none⟩ = some (.int .i64 root) := fun X => X.cell t0
        have y1 : ∀ X : Ext wr, X.w.cell? ⟨w.heap.size, 1, none⟩ = some (.int .i64 next) := fun X => X.cell t1
        have y2 : ∀ X : Ext wr, X.w.cell? ⟨w.heap.size, 2, none⟩ = some (.slice (some ⟨b, o, none⟩) N cap) := fun X => X.cell t2
        have y4 : ∀ X : Ext wr, X.w.cell? ⟨xb, 4, none⟩ = some (.slice (some ⟨kb, ko, none⟩) x.kids.length kc) := fun X => X.cell x4
        have y5 : ∀ X : Ext wr, X.w.cell? ⟨kb, ko + j, none⟩ = some (.int .i64 c) := fun X => X.cell d1
        refine wp_region_ext (by kernel_rfl) (by kernel_rfl) ?_
        repeat (go_big_quiet_step (first | (go_at_call 99; exact Ext.calls (FC.out _)) | fail))
        refine wpQuiet_nil ?_
        rintro _ ⟨X, rfl⟩
        have BX := Lib.hid X.below
        have f1 := X.cell e1
        have f2 := X.cell e2
        have f3 := X.cell e3
        have g2 := X.cell t2
        have g3 := X.cell x3
        have MM := Lib.hid (M.out.later X.below)
        clear y0 y1 y2 y4 y5 e1 e2 e3 t0 t1 t2 x2 x3 x4 d1
        generalize X.w = W at BX f1 f2 f3 g2 g3 MM ⊢
        go_wp2_with fail
        have DW : ∀ n, Below w.heap.size w (W.drewN n) := fun n => MM.out.mo.below.trans ((dr_below W n).mono MM.out.mo.below.size)
        by_cases h5 : y.fr < lo
        · have KF : Hid (kidsOk ns (Nd.to x) x.fr x.kids = false) := Lib.hid (by rw [KE.out, ZD.out, KS.out, decide_eq_false (show ¬ lo ≤ y.fr by omega)]; rfl)
          refine wp_region_quiet_lit (by kernel_rfl) (by kernel_rfl) ?_
          repeat (go_big_quiet_step (fail))
          refine wpQuiet_nil ?_
          rintro _ ⟨nq, rfl⟩
          go_wp2_with fail
          exact HR.out _ KF.out _ _ _ _ _ _ _ _ _ _ _ _ _ _ _ _ _ _ _ _ _ _ _ _ _ _ _ _ _ _ _ _ _ _ _ _ _ _ _ _ _ _ _ _ _ _ _ _ _ _ _ _ _ _ _ _ _ _ _ _ _ _ _ (DW nq)
        · by_cases h6 : Nd.to x < Nd.to y
          · have KF : Hid (kidsOk ns (Nd.to x) x.fr x.kids = false) := Lib.hid (by rw [KE.out, ZD.out, KS.out, decide_eq_false (show ¬ Nd.to y ≤ Nd.to x by omega), Bool.and_false]; rfl)
            refine wp_region_quiet_lit (by kernel_rfl) (by kernel_rfl) ?_
            repeat (go_big_quiet_step (fail))
            refine wpQuiet_nil ?_
            rintro _ ⟨nq, rfl⟩
            go_wp2_with fail
            exact HR.out _ KF.out _ _ _ _ _ _ _ _ _ _ _ _ _ _ _ _ _ _ _ _ _ _ _ _ _ _ _ _ _ _ _ _ _ _ _ _ _ _ _ _ _ _ _ _ _ _ _ _ _ _ _ _ _ _ _ _ _ _ _ _ _ _ _ (DW nq)
          · by_cases h7 : y.kd = 0
            · have KF : Hid (kidsOk ns (Nd.to x) x.fr x.kids = false) := Lib.hid (by rw [KE.out, ZD.out, KS.out, h7]; simp)
              have q7 : (y.kd == 0) = true := by rw [h7]; rfl
              clear h7
              refine wp_region_quiet_lit (by kernel_rfl) (by kernel_rfl) ?_
              repeat (go_big_quiet_step (fail))
              refine wpQuiet_nil ?_
              rintro _ ⟨nq, rfl⟩
              go_wp2_with fail
              exact HR.out _ KF.out _ _ _ _ _ _ _ _ _ _ _ _ _ _ _ _ _ _ _ _ _ _ _ _ _ _ _ _ _ _ _ _ _ _ _ _ _ _ _ _ _ _ _ _ _ _ _ _ _ _ _ _ _ _ _ _ _ _ _ _ _ _ _ (DW nq)
            · have q7 : (y.kd == 0) = false := beq_eq_false_iff_ne.2 h7
              have KE2 : Hid (kidsOk ns (Nd.to x) x.fr x.kids = kidsOk ns (Nd.to x) (Nd.to y) (x.kids.drop (j + 1))) := Lib.hid (by
                rw [KE.out, ZD.out, KS.out, decide_eq_true (show lo ≤ y.fr by omega), decide_eq_true (show Nd.to y ≤ Nd.to x by omega), q7]; rfl)
              clear h7
              obtain ⟨p1, p2⟩ := MM.out.mo.par HQL.out
              have CL : Hid ((l ++ x.kids.take j).countP (fun c => fdZ ns c == (q : Int)) ≤ 1000000000000000000) := Lib.hid (by
                refine Nat.le_trans List.countP_le_length ?_
                have := LL.out
                have h8 := List.length_take_le j x.kids
                rw [List.length_append]
                have h9 : (x.kids.take j).length ≤ x.kids.length := by rw [List.length_take]; omega
                omega)
              have BU := Lib.hid (fun (n : Nat) (u : Int) (hu : u = (((l ++ x.kids.take j).countP (fun c => fdZ ns c == (q : Int)) : Nat) : Int) + 1) => (MM.out.later (dr_below W n)).bump H1.out HQL.out u hu)
              generalize (l ++ x.kids.take j).countP (fun c => fdZ ns c == (q : Int)) = cn at p1 CL BU
              have hcn := CL.out
              refine wp_region_quiet_lit (by kernel_rfl) (by kernel_rfl) ?_
              repeat (go_big_quiet_step (fail))
              refine wpQuiet_nil ?_
              rintro _ ⟨nq, rfl⟩
              have f1' : (W.drewN nq).cell? ⟨w.heap.size + 1, q, none⟩ = some (.int .i64 (cn : Int)) := p1
              have f2' : (W.drewN nq).frozen? ⟨w.heap.size + 1, q, none⟩ = false := p2
              have g2' : (W.drewN nq).cell? ⟨w.heap.size, 2, none⟩ = some (.slice (some ⟨b, o, none⟩) N cap) := g2
              go_upto_region 24 with fail
              have M4 := Lib.hid (BU.out nq ((cn : Int) + 1) rfl)
              have k2 := (obj_cells M4.out.mo.box).1 2 _ rfl
              have k3 : ((W.drewN nq).setCell ⟨w.heap.size + 1, q, none⟩ (.int .i64 ((cn : Int) + 1))).cell? ⟨b, o + q * 5 + 3, none⟩ = some (.int .i64 (Nd.to y)) := by
                have := M4.out.mo.below.cell (p := ⟨b, o + q * 5 + 3, none⟩) (World.block_lt_of_cell? w ⟨b, o + q * 5 + 3, none⟩ Y3.out)
                exact this.trans Y3.out
              clear f1' f2' g2' p1 p2 f1 f2 f3 g2 g3 BU
              generalize (W.drewN nq).setCell ⟨w.heap.size + 1, q, none⟩ (.int .i64 ((cn : Int) + 1)) = W4 at M4 k2 k3 ⊢
              go_wp2_with fail
              go_roundw
              case rel => exact ⟨j + 1, Nd.to y, by omega, by go_num, rfl, KE2, Lib.hid (by rw [TK.out]; exact M4.out)⟩
              case measure => simp [intOf]; omega
      · have FC : Hid (∀ X : Ext wr, Calls Tryz.prog 99 #[.agg #[.int .i64 root, .int .i64 next, .slice p N cap], .int .i64 c] X.w (RetBelow (.returned (.int .i64 (-1))) X.w)) := Lib.hid (fun X => by
          have := FA.out X.w (M.out.mo.below.trans (X.below.mono M.out.mo.below.size)) c
          rw [h1] at this
          exact this)
        have KF : Hid (kidsOk ns (Nd.to x) x.fr x.kids = false) := Lib.hid (by rw [KE.out, ZD.out, kidsOk_none h2])
        clear h1 h2
        have y0 : ∀ X : Ext wr, X.w.cell? ⟨w.heap.size, 0, none⟩ = some (.int .i64 root) := fun X => X.cell t0
        have y1 : ∀ X : Ext wr, X.w.cell? ⟨w.heap.size, 1, none⟩ = some (.int .i64 next) := fun X => X.cell t1
        have y2 : ∀ X : Ext wr, X.w.cell? ⟨w.heap.size, 2, none⟩ = some (.slice p N cap) := fun X => X.cell t2
        have y4 : ∀ X : Ext wr, X.w.cell? ⟨xb, 4, none⟩ = some (.slice (some ⟨kb, ko, none⟩) x.kids.length kc) := fun X => X.cell x4
        have y5 : ∀ X : Ext wr, X.w.cell? ⟨kb, ko + j, none⟩ = some (.int .i64 c) := fun X => X.cell d1
        refine wp_region_ext (by kernel_rfl) (by kernel_rfl) ?_
        repeat (go_big_quiet_step (first | (go_at_call 99; exact Ext.calls (FC.out _)) | fail))
        refine wpQuiet_nil ?_
        rintro _ ⟨X, rfl⟩
        have MM := Lib.hid (M.out.later X.below)
        clear y0 y1 y2 y4 y5 t0 t1 t2 x2 x3 x4 d1
        generalize X.w = W at MM ⊢
        go_wp2_with fail
        have DW : ∀ n, Below w.heap.size w (W.drewN n) := fun n => MM.out.mo.below.trans ((dr_below W n).mono MM.out.mo.below.size)
        refine wp_region_quiet_lit (by kernel_rfl) (by kernel_rfl) ?_
        repeat (go_big_quiet_step (fail))
        refine wpQuiet_nil ?_
        rintro _ ⟨nq, rfl⟩
        go_wp2_with fail
        exact HR.out _ KF.out _ _ _ _ _ _ _ _ _ _ _ _ _ _ _ _ _ _ _ _ _ _ _ _ _ _ _ _ _ _ _ _ _ _ _ _ _ _ _ _ _ _ _ _ _ _ _ _ _ _ _ _ _ _ _ _ _ _ _ _ _ _ _ (DW nq)
    · have KT : Hid (kidsOk ns (Nd.to x) x.fr x.kids = true) := Lib.hid (by rw [KE.out, List.drop_eq_nil_of_le (by omega)]; rfl)
      have MT : Hid (MO w wr ns root next p N cap (l ++ x.kids)) := Lib.hid (by have := M.out.mo; rwa [List.take_of_length_le (by omega)] at this)
      go_wp2_with fail
      exact HQ.out _ KT.out MT.out _ _ _ _ _ _ _ _ _ _ _ _ _ _ _ _ _ _ _ _ _ _ _ _ _ _ _ _ _ _ _ _ _ _ _ _ _ _ _ _ _ _ _ _ _ _ _ _ _ _ _ _ _ _ _ _ _ _ _ _ _ _ _ _

end Go.Proofs.YtjmfjlffcopnnaaGreatDoor
