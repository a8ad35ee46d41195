/-
  MyR, MyS, MyK, MyN, MyT, StA, De1, in one text. Conditions: as each theorem's premises say.
-/
import Derived.Test.YtjmfjlffcopnnaaGreatDoorPF13
import Derived.Test.YtjmfjlffcopnnaaGreatDoorPF15
import Derived.Laws.OwnMore
import Derived.Test.YtjmfjlffcopnnaaGreatDoorPF05
import Derived.Laws.AppendOwnNone
import Derived.Maps.AppendAt
namespace Go.Proofs.YtjmfjlffcopnnaaGreatDoor
open Go.RowKit

/-- Is something wrong with a node by itself or the one ahead of it? -/
def badB (next size : Int) (i : Nat) (pid id kd fr tt : Int) (kn : Nat) : Bool :=
  decide (id < 0) || (decide (next ≤ id) || ((decide (0 < i) && decide (id ≤ pid)) || (decide (kd < 0) || (decide (7 < kd) || (decide (fr < 0) || (decide (tt < fr) || (decide (size < tt) || (leafK kd && decide (0 < kn)))))))))

end Go.Proofs.YtjmfjlffcopnnaaGreatDoor

namespace Go.Proofs.YtjmfjlffcopnnaaGreatDoor
open Go.RowKit

/-- How often each node is a child, so far. -/
def prL (ns : List Nd) (l : List Int) : List Int := (List.range ns.length).map (fun (q : Nat) => ((l.countP (fun c => fdZ ns c == (q : Int)) : Nat) : Int))
theorem rises_snoc : ∀ {l : List Nd} {x : Nd}, risesB l = true → (∀ y ∈ l.getLast?, y.id < x.id) → risesB (l ++ [x]) = true
  | [], _, _, _ => rfl
  | [a], x, _, h => by simpa [risesB] using h
  | a :: b :: r, x, h, h2 => by
    have := rises_snoc (l := b :: r) (x := x) (rises_cons.1 h).2 (by simpa using h2)
    simp only [List.cons_append, risesB, Bool.and_eq_true, decide_eq_true_eq] at h this ⊢
    exact ⟨h.1, this⟩
/-- The first so many are right. -/
structure OkI (ns : List Nd) (root next size : Int) (i : Nat) : Prop where
  ok : ∀ (j : Nat) x, j < i → ns[j]? = some x → nodeOk root next size x = true ∧ kidsOk ns (Nd.to x) x.fr x.kids = true
  rise : risesB (ns.take i) = true
theorem OkI.zero (ns : List Nd) (root next size : Int) : OkI ns root next size 0 := ⟨fun j x h => by omega, rfl⟩
/-- The id of the node ahead. -/
def pidOf (ns : List Nd) (i : Nat) : Int := match ns[i - 1]? with
  | some y => y.id
  | none => 0
theorem OkI.next {ns : List Nd} {root next size : Int} {i : Nat} {x : Nd} (h : OkI ns root next size i) (hx : ns[i]? = some x) (hb : badB next size i (pidOf ns i) x.id x.kd x.fr (Nd.to x) x.kids.length = false) (hr : x.kd = 0 → x.id = root ∧ x.fr = 0 ∧ Nd.to x = size) (hk : kidsOk ns (Nd.to x) x.fr x.kids = true) : OkI ns root next size (i + 1) := by
  unfold badB at hb
  simp only [Bool.or_eq_false_iff, decide_eq_false_iff_not, Bool.and_eq_false_iff] at hb
  obtain ⟨b1, b2, b3, b4, b5, b6, b7, b8, b9⟩ := hb
  refine ⟨fun j y hj hy => ?_, ?_⟩
  · by_cases e : j < i
    · exact h.ok j y e hy
    · obtain rfl : j = i := by omega
      rw [hx] at hy
      cases hy
      refine ⟨?_, hk⟩
      unfold nodeOk
      simp only [Bool.and_eq_true, decide_eq_true_eq, Bool.or_eq_true, Bool.not_eq_true']
      refine ⟨⟨⟨⟨⟨⟨⟨⟨by omega, by omega⟩, by omega⟩, by omega⟩, by omega⟩, by omega⟩, by omega⟩, ?_⟩, ?_⟩
      · rcases b9 with b9 | b9
        · exact .inl b9
        · refine .inr (List.isEmpty_iff.2 (List.eq_nil_of_length_eq_zero (by omega)))
      · by_cases e0 : x.kd = 0
        · obtain ⟨c1, c2, c3⟩ := hr e0
          exact .inr ⟨⟨by rw [c1]; simp, by rw [c2]; rfl⟩, by rw [c3]; simp⟩
        · exact .inl (beq_eq_false_iff_ne.2 e0)
  · rw [List.take_add_one, hx]
    refine rises_snoc h.rise ?_
    intro y hy
    have hl := (List.getElem?_eq_some_iff.1 hx).1
    rw [List.getLast?_eq_getElem?, List.length_take, Nat.min_eq_left (by omega)] at hy
    cases i with
    | zero => simp at hy
    | succ j =>
      have hyj := List.getElem?_eq_getElem (l := ns) (i := j) (by omega)
      rw [List.getElem?_take_of_lt (by omega), show j + 1 - 1 = j from rfl, hyj] at hy
      cases hy
      rcases b3 with b3 | b3
      · omega
      · unfold pidOf at b3
        rw [show j + 1 - 1 = j from rfl, hyj] at b3
        dsimp only at b3
        omega
theorem get_at {ns : List Nd} (hr : risesB ns = true) {q : Nat} {x : Nd} (hx : ns[q]? = some x) : getN ns x.id = some x ∧ fdZ ns x.id = (q : Int) := by
  have hn := rises_nodup hr
  have hg := get_mem hn (List.mem_of_getElem? hx)
  refine ⟨hg, ?_⟩
  rcases fd_cases ns x.id with ⟨k, y, h1, h2, h3, h4⟩ | ⟨_, h2⟩
  · rw [h1]
    have hk := (List.getElem?_eq_some_iff.1 h2).1
    have hq := (List.getElem?_eq_some_iff.1 hx).1
    have e1 : (ns.map Nd.id)[k]? = some x.id := by rw [List.getElem?_map, h2]; simp [h3]
    have e2 : (ns.map Nd.id)[q]? = some x.id := by rw [List.getElem?_map, hx]; rfl
    have := (List.getElem?_inj (by simpa using hk) hn).1 (e1.trans e2.symm)
    rw [this]
  · rw [hg] at h2; cases h2
/-- All that TreeMay asks ahead of its last line. -/
structure OkA (ns : List Nd) (root next size : Int) : Prop where
  ok : ∀ x ∈ ns, nodeOk root next size x = true
  kids : ∀ x ∈ ns, kidsOk ns (Nd.to x) x.fr x.kids = true
  rise : risesB ns = true
theorem OkI.all {ns : List Nd} {root next size : Int} {i : Nat} (h : OkI ns root next size i) (hi : ns.length ≤ i) : OkA ns root next size := by
  have key : ∀ x ∈ ns, nodeOk root next size x = true ∧ kidsOk ns (Nd.to x) x.fr x.kids = true := fun x hx => by
    obtain ⟨j, hj, e⟩ := List.getElem_of_mem hx
    exact h.ok j x (by omega) (by rw [List.getElem?_eq_getElem hj, e])
  refine ⟨fun x hx => (key x hx).1, fun x hx => (key x hx).2, ?_⟩
  have := h.rise
  rwa [List.take_of_length_le hi] at this
theorem OkA.last {ns : List Nd} {root next size : Int} (h : OkA ns root next size) (h1 : ∀ (q : Nat) x, ns[q]? = some x → x.kd = 0 ∨ (allKids ns).count x.id = 1) (g1 : 1 ≤ ns.length) (g2 : ns.length ≤ 2048) (g3 : 0 ≤ next) (g4 : next ≤ 16777216) (g5 : 0 ≤ size) (g6 : size ≤ 4096) (hr : ns.countP (fun x => x.kd == 0) = 1) : mayB ns root next size = (reachN ns (ns.length + 1) root == ns.length) := by
  have e : mayC ns root next size = true := by
    unfold mayC
    simp only [Bool.and_eq_true, decide_eq_true_eq, List.all_eq_true, beq_iff_eq, Bool.or_eq_true]
    refine ⟨⟨⟨⟨⟨⟨⟨⟨⟨⟨g1, g2⟩, g3⟩, g4⟩, g5⟩, g6⟩, h.ok⟩, h.rise⟩, h.kids⟩, hr⟩, fun x hx => ?_⟩
    obtain ⟨q, hq, e⟩ := List.getElem_of_mem hx
    exact h1 q x (by rw [List.getElem?_eq_getElem hq, e])
  rw [mayB_is, e, Bool.true_and]
theorem OkA.root {ns : List Nd} {root next size : Int} (h : OkA ns root next size) (hr : ns.countP (fun x => x.kd == 0) = 1) : ∃ (q : Nat) (x : Nd), ns[q]? = some x ∧ x.id = root ∧ fdZ ns root = (q : Int) ∧ getN ns x.id = some x := by
  obtain ⟨x, hx, h0⟩ := List.countP_pos_iff.1 (show 0 < ns.countP (fun x => x.kd == 0) by omega)
  have n1 := h.ok x hx
  unfold nodeOk at n1
  simp only [Bool.and_eq_true, decide_eq_true_eq, Bool.or_eq_true, Bool.not_eq_true'] at n1
  have e : x.id = root := by
    rcases n1.2 with e | e
    · rw [h0] at e; cases e
    · exact eq_of_beq e.1.1
  obtain ⟨q, hq, e2⟩ := List.getElem_of_mem hx
  have hxq : ns[q]? = some x := by rw [List.getElem?_eq_getElem hq, e2]
  obtain ⟨a, b⟩ := get_at h.rise hxq
  exact ⟨q, x, hxq, e, by rw [← e]; exact b, a⟩

/-- What TreeMay has made: its tree's box, the parents' row. -/
structure MO (w wr : World) (ns : List Nd) (root next : Int) (p : Option Addr) (N cap : Nat) (l : List Int) : Prop where
  own : lyI.Own wr (w.heap.size + 1) (.slice (some ⟨w.heap.size + 1, 0, none⟩) N N) (prL ns l)
  box : wr.heap[w.heap.size]? = some (.cells #[.int .i64 root, .int .i64 next, .slice p N cap] 26 (0, 0))
  below : Below w.heap.size w wr
theorem MO.later {w wr W : World} {ns : List Nd} {root next : Int} {p : Option Addr} {N cap : Nat} {l : List Int} (h : MO w wr ns root next p N cap l) (hb : Below wr.heap.size wr W) : MO w W ns root next p N cap l :=
  ⟨h.own.below hb, (hb.block _ (Array.getElem?_eq_some_iff.1 h.box).1).trans h.box, h.below.trans (hb.mono h.below.size)⟩

end Go.Proofs.YtjmfjlffcopnnaaGreatDoor

namespace Go.Proofs.YtjmfjlffcopnnaaGreatDoor
open Go.RowKit

/-- The memory of the loop: TreeMay's own, and the node's box. -/
structure MX (w wr : World) (ns : List Nd) (root next : Int) (p : Option Addr) (N cap : Nat) (l : List Int) (xb : Nat) (x : Nd) (kp : Option Addr) (kc : Nat) : Prop where
  mo : MO w wr ns root next p N cap l
  xbx : wr.heap[xb]? = some (.cells #[.int .i64 x.id, .int .i64 x.kd, .int .i64 x.fr, .int .i64 (Nd.to x), .slice kp x.kids.length kc] 109 (0, 0))
theorem MX.later {w wr W : World} {ns : List Nd} {root next : Int} {p : Option Addr} {N cap : Nat} {l : List Int} {xb : Nat} {x : Nd} {kp : Option Addr} {kc : Nat} (h : MX w wr ns root next p N cap l xb x kp kc) (hb : Below wr.heap.size wr W) : MX w W ns root next p N cap l xb x kp kc :=
  ⟨h.mo.later hb, (hb.block _ (Array.getElem?_eq_some_iff.1 h.xbx).1).trans h.xbx⟩

end Go.Proofs.YtjmfjlffcopnnaaGreatDoor

namespace Go.Proofs.YtjmfjlffcopnnaaGreatDoor
open Go.RowKit

end Go.Proofs.YtjmfjlffcopnnaaGreatDoor

namespace Go.Proofs.YtjmfjlffcopnnaaGreatDoor
open Go.RowKit

end Go.Proofs.YtjmfjlffcopnnaaGreatDoor

namespace Go.Proofs.YtjmfjlffcopnnaaGreatDoor
open Go.RowKit

theorem own_form {w : World} {base : Nat} {e : TypeId} {size : Nat} {v : Value} {n : Nat} {xs : List Value} (h : w.ownsRow base e size v n xs) : ∃ p cap, v = .slice p n cap := by
  rcases h.2 with ⟨h, hn⟩ | ⟨g, cap, _, h, _⟩
  · rw [hn]; exact ⟨_, _, h⟩
  · exact ⟨_, _, h⟩
theorem run_append_none {P : Program} {w : World} (base : Nat) (t ty e : TypeId) (i : TypeInfo) (size : Nat) (ht : P.underlying t = some (.slice e)) (hi : P.info? e = some i) (c : Nat)
    (v : Value) (n : Nat) (xs : List Value) (hown : w.ownsRow base e size v n xs) : (Builtin.append_ #[t, t] ty #[v, .slice none 0 c]).run P w = .ok v w := by
  rcases hown.2 with ⟨rfl, rfl⟩ | ⟨g, cap, cur, rfl, _, _, hnc, _⟩
  · simp [Builtin.append_, run_underlying ht, sizeOf, typeInfo, hi, Builtin.lenOf, Builtin.firstCells]
  · simp [Builtin.append_, run_underlying ht, sizeOf, typeInfo, hi, Builtin.lenOf, Builtin.firstCells, hnc, storeCells]
theorem run_append_all {P : Program} (w : World) (t ty : TypeId) (base : Nat) (e : TypeId) (i : TypeInfo) (z : Value) (size bytes : Nat) (ht : P.underlying t = some (.slice e)) (hi : P.info? e = some i) (hz : i.zero = some z)
    (hsize : i.size = size) (hby : i.bytes = bytes) (hzs : z.cells.size = size) (hsz : 0 < size)
    (v : Value) (n : Nat) (xs : List Value) (hown : w.ownsRow base e size v n xs)
    (q : Option Addr) (m c : Nat) (news : List Value) (hl : news.length = m * size) (hq : q = none → m = 0) (hnews : ∀ ad, q = some ad → ∀ j u, news[j]? = some u → w.cell? (ad.add j) = some u) (h1 : ∀ u ∈ news, u.oneCell' = true)
    (h63 : n + m ≤ maxLen) (hbytes : (n + m) * bytes ≤ 140737488355328) (hbase : base ≤ w.heap.size) (N : Nat) (hN : n + m = N) :
    ∃ p cap w', (Builtin.append_ #[t, t] ty #[v, .slice q m c]).run P w = .ok (.slice p N cap) w' ∧ w'.ownsRow base e size (.slice p N cap) N (xs ++ news) ∧ w.grownBy w' v.ownBlock ∧ ((Value.slice p N cap).ownBlock = v.ownBlock ∨ (Value.slice p N cap).ownBlock = some w.heap.size) := by
  subst hN
  cases q with
  | none =>
    obtain rfl := hq rfl
    have e0 : news = [] := List.eq_nil_of_length_eq_zero (by rw [hl, Nat.zero_mul])
    subst e0
    obtain ⟨p, cap, rfl⟩ := own_form hown
    exact ⟨p, cap, w, run_append_none base t ty e i size ht hi c _ n xs hown, by rw [List.append_nil]; exact hown, grown_refl _ _, .inl rfl⟩
  | some ad =>
    obtain ⟨v', w', hr, h2, h3, _, h5⟩ := run_append_own_at (P := P) w base t ty e i z size bytes ht hi hz hsize hby hzs hsz v n xs hown ad m c news hl (hnews ad rfl) h1 h63 hbytes hbase
    obtain ⟨p, cap, rfl⟩ := own_form h2
    exact ⟨p, cap, w', hr, h2, h3, h5⟩
theorem wp_append_all {P : Program} (w : World) {o : Oper} {a : Act} {K : Act → World → Prop} {Q : Exit → Act → World → Prop} (s x : Operand) (t : TypeId)
    (ho : o.op = .call { callee := .builtin .append, args := #[s, x], argTypes := #[t, t] })
    (base : Nat) (e : TypeId) (i : TypeInfo) (z : Value) (size bytes : Nat) (ht : P.underlying t = some (.slice e)) (hi : P.info? e = some i) (hz : i.zero = some z)
    (hsize : i.size = size) (hby : i.bytes = bytes) (hzs : z.cells.size = size) (hsz : 0 < size)
    (v : Value) (n : Nat) (xs : List Value) (hs : a.eval s = v) (hown : w.ownsRow base e size v n xs)
    (q : Option Addr) (m c : Nat) (news : List Value) (hx : a.eval x = .slice q m c) (hl : news.length = m * size) (hq : q = none → m = 0) (hnews : ∀ ad, q = some ad → ∀ j u, news[j]? = some u → w.cell? (ad.add j) = some u) (h1 : ∀ u ∈ news, u.oneCell' = true)
    (h63 : n + m ≤ maxLen) (hbytes : (n + m) * bytes ≤ 140737488355328) (hbase : base ≤ w.heap.size) (N : Nat) (hN : n + m = N)
    (h : ∀ p cap w', w'.ownsRow base e size (.slice p N cap) N (xs ++ news) → w.grownBy w' v.ownBlock → ((Value.slice p N cap).ownBlock = v.ownBlock ∨ (Value.slice p N cap).ownBlock = some w.heap.size) → K (a.put o.dst (.slice p N cap)) w') : o.wp P a w K Q := by
  obtain ⟨p, cap, w', hr, h2, h3, h4⟩ := run_append_all (P := P) w t o.type base e i z size bytes ht hi hz hsize hby hzs hsz v n xs hown q m c news hl hq hnews h1 h63 hbytes hbase N hN
  unfold Oper.wp execOp
  simp only [ho, resolve, invoke, builtin, Sem.run_bind, Sem.run_pure, Result.andThen_ok, List.map_toArray, List.map_cons, List.map_nil, hs, hx, hr]
  exact h p cap w' h2 h3 h4
/-- At the list of a plain region's operations. -/
theorem wpList_append_all {P : Program} (w : World) {ops : Array Oper} {rest : List Oper} {o : Oper} {a : Act} {Q : Exit → Act → World → Prop} (hgd : o.guard = none) (s x : Operand) (t : TypeId)
    (ho : o.op = .call { callee := .builtin .append, args := #[s, x], argTypes := #[t, t] })
    (base : Nat) (e : TypeId) (i : TypeInfo) (z : Value) (size bytes : Nat) (ht : P.underlying t = some (.slice e)) (hi : P.info? e = some i) (hz : i.zero = some z)
    (hsize : i.size = size) (hby : i.bytes = bytes) (hzs : z.cells.size = size) (hsz : 0 < size)
    (v : Value) (n : Nat) (xs : List Value) (hs : a.eval s = v) (hown : w.ownsRow base e size v n xs)
    (q : Option Addr) (m c : Nat) (news : List Value) (hx : a.eval x = .slice q m c) (hl : news.length = m * size) (hq : q = none → m = 0) (hnews : ∀ ad, q = some ad → ∀ j u, news[j]? = some u → w.cell? (ad.add j) = some u) (h1 : ∀ u ∈ news, u.oneCell' = true)
    (h63 : n + m ≤ maxLen) (hbytes : (n + m) * bytes ≤ 140737488355328) (hbase : base ≤ w.heap.size) (N : Nat) (hN : n + m = N)
    (h : ∀ p cap w', w'.ownsRow base e size (.slice p N cap) N (xs ++ news) → w.grownBy w' v.ownBlock → ((Value.slice p N cap).ownBlock = v.ownBlock ∨ (Value.slice p N cap).ownBlock = some w.heap.size) → wpList P ops Q rest (a.put o.dst (.slice p N cap)) w') :
    wpList P ops Q (o :: rest) a w :=
  wpList_plain hgd fun _ hK => wp_append_all w s x t ho base e i z size bytes ht hi hz hsize hby hzs hsz v n xs hs hown q m c news hx hl hq hnews h1 h63 hbytes hbase N hN fun p cap w' h2 h3 h4 => hK _ _ (h p cap w' h2 h3 h4)

/-- A step's own cells: its numbers, its children's slice. -/
structure Sv where
  kd : Int
  id : Int
  nd : Int
  fr : Int
  tt : Int
  kp : Option Addr
  kn : Nat
  kc : Nat
def Sv.kv (x : Sv) : Value := .slice x.kp x.kn x.kc
def Sv.cells (x : Sv) : List Value := [.int .i64 x.kd, .int .i64 x.id, .int .i64 x.nd, .int .i64 x.fr, .int .i64 x.tt, x.kv]
def lyS : Ly Sv where
  ty := 51
  sz := 6
  cells := Sv.cells
  len _ := rfl
  one t u hu := by
    simp [Sv.cells, Sv.kv] at hu
    rcases hu with rfl | rfl | rfl | rfl | rfl | rfl <;> rfl
  pos := by decide
theorem info68 : (Tryz.prog.info? 51).map (fun i => (i.zero, i.size, i.bytes)) = some (some (.agg #[.int .i64 0, .int .i64 0, .int .i64 0, .int .i64 0, .int .i64 0, .slice none 0 0]), 6, 64) := by kernel_rfl

/-- The steps of a slice, as they lie in memory, their children's rows too. -/
def StepsR (w : World) (p : Option Addr) (ss : List St) : Prop := ∀ (i : Nat) s, ss[i]? = some s → ∃ b o kp kc, p = some ⟨b, o, none⟩ ∧ lyS.At w b (o + i * 6) ⟨s.kd, s.id, s.nd, s.fr, St.to s, kp, s.kids.length, kc⟩ ∧ lyI.Row w kp s.kids
theorem StepsR.below {w w' : World} {p : Option Addr} {ss : List St} (h : StepsR w p ss) (hb : Below w.heap.size w w') : StepsR w' p ss := fun i n hi => by
  obtain ⟨b, o, kp, kc, h1, h2, h3⟩ := h i n hi
  exact ⟨b, o, kp, kc, h1, h2.below hb, h3.below hb⟩
def FitS (w : World) (base : Nat) (v : Sv) (s : St) : Prop := v.kd = s.kd ∧ v.id = s.id ∧ v.nd = s.nd ∧ v.fr = s.fr ∧ v.tt = St.to s ∧ lyI.Own w base v.kv s.kids
/-- A row of steps of the call's own. -/
structure OwnS (w : World) (base : Nat) (v : Value) (vs : List Sv) (ss : List St) : Prop where
  row : lyS.Own w base v vs
  len : vs.length = ss.length
  fit : ∀ (i : Nat) x s, vs[i]? = some x → ss[i]? = some s → FitS w base x s
theorem FitS.kept {w w' : World} {base : Nat} {v : Sv} {s : St} {row : Option Nat} (h : FitS w base v s) (hg : w.grownBy w' row) (hr : ∀ g, row = some g → ∃ c, w.heap[g]? = some (.cells c 51 (0, 0))) : FitS w' base v s := by
  obtain ⟨a, b, c, d, e, f⟩ := h
  refine ⟨a, b, c, d, e, f.kept hg (fun g hk e0 => ?_)⟩
  obtain ⟨c1, h1⟩ := hr g e0
  obtain ⟨c2, h2⟩ := f.obj hk
  exact type_ne h1 h2 (by decide) rfl
theorem FitS.below {w w' : World} {base : Nat} {v : Sv} {s : St} (h : FitS w base v s) (hb : Below w.heap.size w w') : FitS w' base v s := by
  obtain ⟨a, b, c, d, e, f⟩ := h
  exact ⟨a, b, c, d, e, f.below hb⟩
theorem OwnS.nil (w : World) (base : Nat) : OwnS w base (.slice none 0 0) [] [] := ⟨Ly.Own.nil w base, rfl, fun i x s h => by simp at h⟩
theorem OwnS.below {w w' : World} {base : Nat} {v : Value} {vs : List Sv} {ss : List St} (h : OwnS w base v vs ss) (hb : Below w.heap.size w w') : OwnS w' base v vs ss :=
  ⟨h.row.below hb, h.len, fun i x s hx hs => (h.fit i x s hx hs).below hb⟩
theorem OwnS.read {w : World} {base n cap : Nat} {p : Option Addr} {vs : List Sv} {ss : List St} (h : OwnS w base (.slice p n cap) vs ss) : StepsR w p ss := fun i s hi => by
  have hl : i < vs.length := by rw [h.len]; exact (List.getElem?_eq_some_iff.1 hi).1
  have hv := List.getElem?_eq_getElem hl
  obtain ⟨a, b, c, d, e, f⟩ := h.fit i _ s hv hi
  obtain ⟨g, o, hp, hat⟩ := h.row.row i _ hv
  generalize vs[i] = v at *
  obtain ⟨kp, kc, hkv⟩ := f.form
  obtain ⟨vkd, vid, vnd, vfr, vtt, vkp, vkn, vkc⟩ := v
  unfold Sv.kv at hkv f
  dsimp only at a b c d e hkv f
  cases hkv
  subst a b c d e
  exact ⟨g, o, kp, kc, hp, hat, f.row⟩

/-- Rows of steps, all apart. -/
structure Rows (w : World) (base : Nat) (rs : List (Value × List Sv × List St)) : Prop where
  own : ∀ (k : Nat) r, rs[k]? = some r → OwnS w base r.1 r.2.1 r.2.2
  apart : ∀ (j k : Nat) r q g, j ≠ k → rs[j]? = some r → rs[k]? = some q → r.1.ownBlock = some g → q.1.ownBlock ≠ some g
theorem Rows.below {w w' : World} {base : Nat} {rs : List (Value × List Sv × List St)} (h : Rows w base rs) (hb : Below w.heap.size w w') : Rows w' base rs := ⟨fun k r hr => (h.own k r hr).below hb, h.apart⟩

/-- The cells of one step, just made. -/
theorem six_new {W : World} {b : Nat} (hb : W.heap.size = b) (x : Sv) : ∀ j u, (Sv.cells x)[j]? = some u → (W.alloc (.cells (Sv.cells x).toArray 51)).cell? ((⟨b, 0, none⟩ : Addr).add j) = some u := by
  intro j u hu
  subst hb
  rw [add_plain, Nat.zero_add, World.cell?_alloc_at _ _ _ _ rfl]
  simpa using hu

end Go.Proofs.YtjmfjlffcopnnaaGreatDoor

namespace Go.Proofs.YtjmfjlffcopnnaaGreatDoor
open Go.RowKit

end Go.Proofs.YtjmfjlffcopnnaaGreatDoor
