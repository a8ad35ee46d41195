/-
  MyK, MyN, MyT, StA, De1, in one text. Conditions: as each theorem's premises say.
-/
import Derived.Test.YtjmfjlffcopnnaaDoorM15
import Derived.Test.YtjmfjlffcopnnaaDoorLxB
import Derived.Laws.AppendOwnNone
import Derived.Maps.AppendAt
namespace Go.Proofs.YtjmfjlffcopnnaaDoor
open Go.RowKit

/-- The block number n of a text. -/
def blockOf (n : Nat) : Code → Option Code
  | .block m c => if m = n then some (.block m c) else blockOf n c
  | .loop c => blockOf n c
  | .seq a b => match blockOf n a with
    | some c => some c
    | none => blockOf n b
  | .cond _ a b => match blockOf n a with
    | some c => some c
    | none => blockOf n b
  | .scope c => blockOf n c
  | _ => none
/-- The memory of the loop: TreeMay's own, and the node's box. -/
structure MX (w wr : World) (ns : List Nd) (root next : Int) (p : Option Addr) (N cap : Nat) (l : List Int) (xb : Nat) (x : Nd) (kp : Option Addr) (kc : Nat) : Prop where
  mo : MO w wr ns root next p N cap l
  xbx : wr.heap[xb]? = some (.cells #[.int .i64 x.id, .int .i64 x.kd, .int .i64 x.fr, .int .i64 (Nd.to x), .slice kp x.kids.length kc] 86 (0, 0))
theorem MX.later {w wr W : World} {ns : List Nd} {root next : Int} {p : Option Addr} {N cap : Nat} {l : List Int} {xb : Nat} {x : Nd} {kp : Option Addr} {kc : Nat} (h : MX w wr ns root next p N cap l xb x kp kc) (hb : Below wr.heap.size wr W) : MX w W ns root next p N cap l xb x kp kc :=
  ⟨h.mo.later hb, (hb.block _ (Array.getElem?_eq_some_iff.1 h.xbx).1).trans h.xbx⟩
theorem MX.bump {w wr : World} {ns : List Nd} {root next : Int} {p : Option Addr} {N cap : Nat} {l : List Int} {xb : Nat} {x : Nd} {kp : Option Addr} {kc : Nat} (h : MX w wr ns root next p N cap l xb x kp kc) {c : Int} {q : Nat} (hq : fdZ ns c = (q : Int)) (hl : q < ns.length) (u : Int) (hu : u = ((l.countP (fun c => fdZ ns c == (q : Int)) : Nat) : Int) + 1) :
    MX w (wr.setCell ⟨w.heap.size + 1, q, none⟩ (.int .i64 u)) ns root next p N cap (l ++ [c]) xb x kp kc := by
  refine ⟨h.mo.bump hq hl u hu, ?_⟩
  obtain ⟨cur, hcur⟩ := h.mo.own.obj rfl
  have hne := type_ne h.xbx hcur (by decide)
  exact ((set_grown wr (w.heap.size + 1) q (.int .i64 u)).block xb (Array.getElem?_eq_some_iff.1 h.xbx).1 (fun e => hne (Option.some.inj e))).trans h.xbx

end Go.Proofs.YtjmfjlffcopnnaaDoor

namespace Go.Proofs.YtjmfjlffcopnnaaDoor
open Go.RowKit

theorem kids_sum {ns : List Nd} {m : Nat} (hkl : ∀ x ∈ ns, x.kids.length ≤ m) : ∀ i, (allKids (ns.take i)).length ≤ i * m
  | 0 => by simp [allKids]
  | i + 1 => by
    rw [List.take_add_one, Nat.succ_mul]
    unfold allKids
    rw [List.flatMap_append, List.length_append]
    have h1 := kids_sum hkl i
    unfold allKids at h1
    cases hx : ns[i]? with
    | none =>
      rw [show (none : Option Nd).toList = [] from rfl, List.flatMap_nil, List.length_nil]
      omega
    | some x =>
      have := hkl x (List.mem_of_getElem? hx)
      rw [show (some x).toList = [x] from rfl, List.flatMap_cons, List.flatMap_nil, List.append_nil]
      omega
theorem kids_take {ns : List Nd} {i : Nat} {x : Nd} (hx : ns[i]? = some x) : allKids (ns.take (i + 1)) = allKids (ns.take i) ++ x.kids := by
  rw [List.take_add_one, hx]
  unfold allKids
  rw [List.flatMap_append]
  simp
theorem roots_take {ns : List Nd} {i : Nat} {x : Nd} (hx : ns[i]? = some x) : (ns.take (i + 1)).countP (fun x => x.kd == 0) = (ns.take i).countP (fun x => x.kd == 0) + (if x.kd = 0 then 1 else 0) := by
  rw [List.take_add_one, hx, List.countP_append]
  congr 1
  by_cases h : x.kd = 0
  · rw [if_pos h]; simp [h]
  · rw [if_neg h]; simp [h]
theorem roots_le (ns : List Nd) (i : Nat) : (ns.take i).countP (fun x => x.kd == 0) ≤ i := Nat.le_trans List.countP_le_length (by rw [List.length_take]; omega)

end Go.Proofs.YtjmfjlffcopnnaaDoor

namespace Go.Proofs.YtjmfjlffcopnnaaDoor
open Go.RowKit

end Go.Proofs.YtjmfjlffcopnnaaDoor

namespace Go.Proofs.YtjmfjlffcopnnaaDoor
open Go.RowKit

theorem own_form {w : World} {base : Nat} {e : TypeId} {size : Nat} {v : Value} {n : Nat} {xs : List Value} (h : w.ownsRow base e size v n xs) : ∃ p cap, v = .slice p n cap := by
  rcases h.2 with ⟨h, hn⟩ | ⟨g, cap, _, h, _⟩
  · rw [hn]; exact ⟨_, _, h⟩
  · exact ⟨_, _, h⟩
theorem run_append_none {P : Program} {w : World} (base : Nat) (t ty e : TypeId) (i : TypeInfo) (size : Nat) (ht : P.underlying t = some (.slice e)) (hi : P.info? e = some i) (c : Nat)
    (v : Value) (n : Nat) (xs : List Value) (hown : w.ownsRow base e size v n xs) : (Builtin.append_ #[t, t] ty #[v, .slice none 0 c]).run P w = .ok v w := by
  rcases hown.2 with ⟨rfl, rfl⟩ | ⟨g, cap, cur, rfl, _, _, hnc, _⟩
  · simp [Builtin.append_, run_underlying ht, sizeOf, typeInfo, hi, Builtin.lenOf, Builtin.firstCells]
  · simp [Builtin.append_, run_underlying ht, sizeOf, typeInfo, hi, Builtin.lenOf, Builtin.firstCells, hnc, storeCells]
theorem run_append_all {P : Program} (w : World) (t ty : TypeId) (base : Nat) (e : TypeId) (i : TypeInfo) (z : Value) (size bytes : Nat) (ht : P.underlying t = some (.slice e)) (hi : P.info? e = some i) (hz : i.zero = some z)
    (hsize : i.size = size) (hby : i.bytes = bytes) (hzs : z.cells.size = size) (hsz : 0 < size)
    (v : Value) (n : Nat) (xs : List Value) (hown : w.ownsRow base e size v n xs)
    (q : Option Addr) (m c : Nat) (news : List Value) (hl : news.length = m * size) (hq : q = none → m = 0) (hnews : ∀ ad, q = some ad → ∀ j u, news[j]? = some u → w.cell? (ad.add j) = some u) (h1 : ∀ u ∈ news, u.oneCell' = true)
    (h63 : n + m ≤ maxLen) (hbytes : (n + m) * bytes ≤ 140737488355328) (hbase : base ≤ w.heap.size) (N : Nat) (hN : n + m = N) :
    ∃ p cap w', (Builtin.append_ #[t, t] ty #[v, .slice q m c]).run P w = .ok (.slice p N cap) w' ∧ w'.ownsRow base e size (.slice p N cap) N (xs ++ news) ∧ w.grownBy w' v.ownBlock ∧ ((Value.slice p N cap).ownBlock = v.ownBlock ∨ (Value.slice p N cap).ownBlock = some w.heap.size) := by
  subst hN
  cases q with
  | none =>
    obtain rfl := hq rfl
    have e0 : news = [] := List.eq_nil_of_length_eq_zero (by rw [hl, Nat.zero_mul])
    subst e0
    obtain ⟨p, cap, rfl⟩ := own_form hown
    exact ⟨p, cap, w, run_append_none base t ty e i size ht hi c _ n xs hown, by rw [List.append_nil]; exact hown, grown_refl _ _, .inl rfl⟩
  | some ad =>
    obtain ⟨v', w', hr, h2, h3, _, h5⟩ := run_append_own_at (P := P) w base t ty e i z size bytes ht hi hz hsize hby hzs hsz v n xs hown ad m c news hl (hnews ad rfl) h1 h63 hbytes hbase
    obtain ⟨p, cap, rfl⟩ := own_form h2
    exact ⟨p, cap, w', hr, h2, h3, h5⟩
theorem wp_append_all {P : Program} (w : World) {o : Oper} {a : Act} {K : Act → World → Prop} {Q : Exit → Act → World → Prop} (s x : Operand) (t : TypeId)
    (ho : o.op = .call { callee := .builtin .append, args := #[s, x], argTypes := #[t, t] })
    (base : Nat) (e : TypeId) (i : TypeInfo) (z : Value) (size bytes : Nat) (ht : P.underlying t = some (.slice e)) (hi : P.info? e = some i) (hz : i.zero = some z)
    (hsize : i.size = size) (hby : i.bytes = bytes) (hzs : z.cells.size = size) (hsz : 0 < size)
    (v : Value) (n : Nat) (xs : List Value) (hs : a.eval s = v) (hown : w.ownsRow base e size v n xs)
    (q : Option Addr) (m c : Nat) (news : List Value) (hx : a.eval x = .slice q m c) (hl : news.length = m * size) (hq : q = none → m = 0) (hnews : ∀ ad, q = some ad → ∀ j u, news[j]? = some u → w.cell? (ad.add j) = some u) (h1 : ∀ u ∈ news, u.oneCell' = true)
    (h63 : n + m ≤ maxLen) (hbytes : (n + m) * bytes ≤ 140737488355328) (hbase : base ≤ w.heap.size) (N : Nat) (hN : n + m = N)
    (h : ∀ p cap w', w'.ownsRow base e size (.slice p N cap) N (xs ++ news) → w.grownBy w' v.ownBlock → ((Value.slice p N cap).ownBlock = v.ownBlock ∨ (Value.slice p N cap).ownBlock = some w.heap.size) → K (a.put o.dst (.slice p N cap)) w') : o.wp P a w K Q := by
  obtain ⟨p, cap, w', hr, h2, h3, h4⟩ := run_append_all (P := P) w t o.type base e i z size bytes ht hi hz hsize hby hzs hsz v n xs hown q m c news hl hq hnews h1 h63 hbytes hbase N hN
  unfold Oper.wp execOp
  simp only [ho, resolve, invoke, builtin, Sem.run_bind, Sem.run_pure, Result.andThen_ok, List.map_toArray, List.map_cons, List.map_nil, hs, hx, hr]
  exact h p cap w' h2 h3 h4
/-- At the list of a plain region's operations. -/
theorem wpList_append_all {P : Program} (w : World) {ops : Array Oper} {rest : List Oper} {o : Oper} {a : Act} {Q : Exit → Act → World → Prop} (hgd : o.guard = none) (s x : Operand) (t : TypeId)
    (ho : o.op = .call { callee := .builtin .append, args := #[s, x], argTypes := #[t, t] })
    (base : Nat) (e : TypeId) (i : TypeInfo) (z : Value) (size bytes : Nat) (ht : P.underlying t = some (.slice e)) (hi : P.info? e = some i) (hz : i.zero = some z)
    (hsize : i.size = size) (hby : i.bytes = bytes) (hzs : z.cells.size = size) (hsz : 0 < size)
    (v : Value) (n : Nat) (xs : List Value) (hs : a.eval s = v) (hown : w.ownsRow base e size v n xs)
    (q : Option Addr) (m c : Nat) (news : List Value) (hx : a.eval x = .slice q m c) (hl : news.length = m * size) (hq : q = none → m = 0) (hnews : ∀ ad, q = some ad → ∀ j u, news[j]? = some u → w.cell? (ad.add j) = some u) (h1 : ∀ u ∈ news, u.oneCell' = true)
    (h63 : n + m ≤ maxLen) (hbytes : (n + m) * bytes ≤ 140737488355328) (hbase : base ≤ w.heap.size) (N : Nat) (hN : n + m = N)
    (h : ∀ p cap w', w'.ownsRow base e size (.slice p N cap) N (xs ++ news) → w.grownBy w' v.ownBlock → ((Value.slice p N cap).ownBlock = v.ownBlock ∨ (Value.slice p N cap).ownBlock = some w.heap.size) → wpList P ops Q rest (a.put o.dst (.slice p N cap)) w') :
    wpList P ops Q (o :: rest) a w :=
  wpList_plain hgd fun _ hK => wp_append_all w s x t ho base e i z size bytes ht hi hz hsize hby hzs hsz v n xs hs hown q m c news hx hl hq hnews h1 h63 hbytes hbase N hN fun p cap w' h2 h3 h4 => hK _ _ (h p cap w' h2 h3 h4)
/-- At a step of a region that draws its order. -/
theorem step_append_all {P : Program} (w : World) {ops : Array Oper} {o : Oper} {a : Act} {K : Act → World → Prop} {Q : Exit → Act → World → Prop} {E : Prop} (hgd : o.guard = none) (s x : Operand) (t : TypeId)
    (ho : o.op = .call { callee := .builtin .append, args := #[s, x], argTypes := #[t, t] })
    (base : Nat) (e : TypeId) (i : TypeInfo) (z : Value) (size bytes : Nat) (ht : P.underlying t = some (.slice e)) (hi : P.info? e = some i) (hz : i.zero = some z)
    (hsize : i.size = size) (hby : i.bytes = bytes) (hzs : z.cells.size = size) (hsz : 0 < size)
    (v : Value) (n : Nat) (xs : List Value) (hs : a.eval s = v) (hown : w.ownsRow base e size v n xs)
    (q : Option Addr) (m c : Nat) (news : List Value) (hx : a.eval x = .slice q m c) (hl : news.length = m * size) (hq : q = none → m = 0) (hnews : ∀ ad, q = some ad → ∀ j u, news[j]? = some u → w.cell? (ad.add j) = some u) (h1 : ∀ u ∈ news, u.oneCell' = true)
    (h63 : n + m ≤ maxLen) (hbytes : (n + m) * bytes ≤ 140737488355328) (hbase : base ≤ w.heap.size) (N : Nat) (hN : n + m = N)
    (h : ∀ p cap w', w'.ownsRow base e size (.slice p N cap) N (xs ++ news) → w.grownBy w' v.ownBlock → ((Value.slice p N cap).ownBlock = v.ownBlock ∨ (Value.slice p N cap).ownBlock = some w.heap.size) → K (a.put o.dst (.slice p N cap)) w') :
    if Region.wanted o (yielded ops a.tmps) = true then Oper.wp P o a w K Q else E := by
  have hw : Region.wanted o (yielded ops a.tmps) = true := by simp [Region.wanted, hgd]
  rw [if_pos hw]
  exact wp_append_all w s x t ho base e i z size bytes ht hi hz hsize hby hzs hsz v n xs hs hown q m c news hx hl hq hnews h1 h63 hbytes hbase N hN h

/-- A step's own cells: its numbers, its children's slice. -/
structure Sv where
  kd : Int
  id : Int
  nd : Int
  fr : Int
  tt : Int
  kp : Option Addr
  kn : Nat
  kc : Nat
def Sv.kv (x : Sv) : Value := .slice x.kp x.kn x.kc
def Sv.cells (x : Sv) : List Value := [.int .i64 x.kd, .int .i64 x.id, .int .i64 x.nd, .int .i64 x.fr, .int .i64 x.tt, x.kv]
def lyS : Ly Sv where
  ty := 45
  sz := 6
  cells := Sv.cells
  len _ := rfl
  one t u hu := by
    simp [Sv.cells, Sv.kv] at hu
    rcases hu with rfl | rfl | rfl | rfl | rfl | rfl <;> rfl
  pos := by decide
theorem info68 : (Tryd.prog.info? 45).map (fun i => (i.zero, i.size, i.bytes)) = some (some (.agg #[.int .i64 0, .int .i64 0, .int .i64 0, .int .i64 0, .int .i64 0, .slice none 0 0]), 6, 64) := by kernel_rfl

/-- The steps of a slice, as they lie in memory, their children's rows too. -/
def StepsR (w : World) (p : Option Addr) (ss : List St) : Prop := ∀ (i : Nat) s, ss[i]? = some s → ∃ b o kp kc, p = some ⟨b, o, none⟩ ∧ lyS.At w b (o + i * 6) ⟨s.kd, s.id, s.nd, s.fr, St.to s, kp, s.kids.length, kc⟩ ∧ lyI.Row w kp s.kids
theorem StepsR.below {w w' : World} {p : Option Addr} {ss : List St} (h : StepsR w p ss) (hb : Below w.heap.size w w') : StepsR w' p ss := fun i n hi => by
  obtain ⟨b, o, kp, kc, h1, h2, h3⟩ := h i n hi
  exact ⟨b, o, kp, kc, h1, h2.below hb, h3.below hb⟩
def FitS (w : World) (base : Nat) (v : Sv) (s : St) : Prop := v.kd = s.kd ∧ v.id = s.id ∧ v.nd = s.nd ∧ v.fr = s.fr ∧ v.tt = St.to s ∧ lyI.Own w base v.kv s.kids
/-- A row of steps of the call's own. -/
structure OwnS (w : World) (base : Nat) (v : Value) (vs : List Sv) (ss : List St) : Prop where
  row : lyS.Own w base v vs
  len : vs.length = ss.length
  fit : ∀ (i : Nat) x s, vs[i]? = some x → ss[i]? = some s → FitS w base x s
theorem FitS.kept {w w' : World} {base : Nat} {v : Sv} {s : St} {row : Option Nat} (h : FitS w base v s) (hg : w.grownBy w' row) (hr : ∀ g, row = some g → ∃ c, w.heap[g]? = some (.cells c 45 (0, 0))) : FitS w' base v s := by
  obtain ⟨a, b, c, d, e, f⟩ := h
  refine ⟨a, b, c, d, e, f.kept hg (fun g hk e0 => ?_)⟩
  obtain ⟨c1, h1⟩ := hr g e0
  obtain ⟨c2, h2⟩ := f.obj hk
  exact type_ne h1 h2 (by decide) rfl
theorem FitS.below {w w' : World} {base : Nat} {v : Sv} {s : St} (h : FitS w base v s) (hb : Below w.heap.size w w') : FitS w' base v s := by
  obtain ⟨a, b, c, d, e, f⟩ := h
  exact ⟨a, b, c, d, e, f.below hb⟩
theorem OwnS.nil (w : World) (base : Nat) : OwnS w base (.slice none 0 0) [] [] := ⟨Ly.Own.nil w base, rfl, fun i x s h => by simp at h⟩
theorem OwnS.below {w w' : World} {base : Nat} {v : Value} {vs : List Sv} {ss : List St} (h : OwnS w base v vs ss) (hb : Below w.heap.size w w') : OwnS w' base v vs ss :=
  ⟨h.row.below hb, h.len, fun i x s hx hs => (h.fit i x s hx hs).below hb⟩
theorem OwnS.read {w : World} {base n cap : Nat} {p : Option Addr} {vs : List Sv} {ss : List St} (h : OwnS w base (.slice p n cap) vs ss) : StepsR w p ss := fun i s hi => by
  have hl : i < vs.length := by rw [h.len]; exact (List.getElem?_eq_some_iff.1 hi).1
  have hv := List.getElem?_eq_getElem hl
  obtain ⟨a, b, c, d, e, f⟩ := h.fit i _ s hv hi
  obtain ⟨g, o, hp, hat⟩ := h.row.row i _ hv
  generalize vs[i] = v at *
  obtain ⟨kp, kc, hkv⟩ := f.form
  obtain ⟨vkd, vid, vnd, vfr, vtt, vkp, vkn, vkc⟩ := v
  unfold Sv.kv at hkv f
  dsimp only at a b c d e hkv f
  cases hkv
  subst a b c d e
  exact ⟨g, o, kp, kc, hp, hat, f.row⟩

/-- Rows of steps, all apart. -/
structure Rows (w : World) (base : Nat) (rs : List (Value × List Sv × List St)) : Prop where
  own : ∀ (k : Nat) r, rs[k]? = some r → OwnS w base r.1 r.2.1 r.2.2
  apart : ∀ (j k : Nat) r q g, j ≠ k → rs[j]? = some r → rs[k]? = some q → r.1.ownBlock = some g → q.1.ownBlock ≠ some g
theorem Rows.below {w w' : World} {base : Nat} {rs : List (Value × List Sv × List St)} (h : Rows w base rs) (hb : Below w.heap.size w w') : Rows w' base rs := ⟨fun k r hr => (h.own k r hr).below hb, h.apart⟩
theorem Rows.push {w w' : World} {base : Nat} {rs : List (Value × List Sv × List St)} (h : Rows w base rs) {k : Nat} {v : Value} {vs : List Sv} {ss : List St} (hk : rs[k]? = some (v, vs, ss)) {v' : Value} {xs : List Sv} {zs : List St}
    (hown : lyS.Own w' base v' (vs ++ xs)) (hg : w.grownBy w' v.ownBlock) (hb : v'.ownBlock = v.ownBlock ∨ v'.ownBlock = some w.heap.size) (hl : xs.length = zs.length) (hf : ∀ (i : Nat) x s, xs[i]? = some x → zs[i]? = some s → FitS w base x s) : Rows w' base (rs.set k (v', vs ++ xs, ss ++ zs)) := by
  have h0 := h.own k _ hk
  have hr : ∀ g, v.ownBlock = some g → ∃ c, w.heap[g]? = some (.cells c 45 (0, 0)) := fun g hg => h0.row.obj hg
  have hkl := (List.getElem?_eq_some_iff.1 hk).1
  have hlen : vs.length = ss.length := h0.len
  refine ⟨fun j r hj => ?_, fun i j r q g hij hi hj he => ?_⟩
  · rw [List.getElem?_set] at hj
    by_cases e : k = j
    · rw [if_pos e] at hj
      subst e
      rw [if_pos hkl] at hj
      cases hj
      refine ⟨hown, by rw [List.length_append, List.length_append, hlen, hl], fun i x s hx hs => ?_⟩
      dsimp only at hx hs
      by_cases hi : i < vs.length
      · rw [List.getElem?_append_left hi] at hx
        rw [List.getElem?_append_left (by omega)] at hs
        exact (h0.fit i x s hx hs).kept hg hr
      · rw [List.getElem?_append_right (by omega)] at hx
        rw [List.getElem?_append_right (by omega), ← hlen] at hs
        exact (hf _ x s hx hs).kept hg hr
    · rw [if_neg e] at hj
      have h1 := h.own j r hj
      exact ⟨h1.row.kept hg (fun g hg2 e0 => h.apart k j _ r g e hk hj e0 hg2), h1.len, fun i x s hx hs => (h1.fit i x s hx hs).kept hg hr⟩
  · rw [List.getElem?_set] at hi hj
    have old : ∀ (j : Nat) q, k ≠ j → rs[j]? = some q → ∀ g, q.1.ownBlock = some g → v'.ownBlock ≠ some g := fun j q hne hq g hg2 e0 => by
      rcases hb with hb | hb
      · rw [hb] at e0
        exact h.apart k j _ q g hne hk hq e0 hg2
      · rw [hb] at e0
        have := ((h.own j q hq).row.lt hg2).2
        cases e0
        omega
    by_cases e1 : k = i
    · rw [if_pos e1] at hi
      by_cases e2 : k = j
      · exact absurd (e1.symm.trans e2) hij
      · rw [if_neg e2] at hj
        subst e1
        rw [if_pos hkl] at hi
        cases hi
        dsimp only at he
        exact fun e0 => old j q e2 hj g e0 he
    · rw [if_neg e1] at hi
      by_cases e2 : k = j
      · rw [if_pos e2] at hj
        subst e2
        rw [if_pos hkl] at hj
        cases hj
        exact old i r e1 hi g he
      · rw [if_neg e2] at hj
        exact h.apart i j r q g hij hi hj he

/-- The cells of one step, just made. -/
theorem six_new {W : World} {b : Nat} (hb : W.heap.size = b) (x : Sv) : ∀ j u, (Sv.cells x)[j]? = some u → (W.alloc (.cells (Sv.cells x).toArray 45)).cell? ((⟨b, 0, none⟩ : Addr).add j) = some u := by
  intro j u hu
  subst hb
  rw [add_plain, Nat.zero_add, World.cell?_alloc_at _ _ _ _ rfl]
  simpa using hu

end Go.Proofs.YtjmfjlffcopnnaaDoor

namespace Go.Proofs.YtjmfjlffcopnnaaDoor
open Go.RowKit

theorem ints_all (l : List Int) (j : Nat) : (lyI.all l)[j]? = (l[j]?).map (fun c => Value.int .i64 c) := by
  have : lyI.all l = l.map (fun c => Value.int .i64 c) := by
    unfold Ly.all
    induction l with
    | nil => rfl
    | cons a l ih => rw [List.flatMap_cons, ih]; rfl
  rw [this, List.getElem?_map]
theorem ints_news {w : World} {p : Option Addr} {l : List Int} (h : lyI.Row w p l) : ∀ ad, p = some ad → ∀ j u, (lyI.all l)[j]? = some u → w.cell? (ad.add j) = some u := by
  intro ad hp j u hu
  rw [ints_all] at hu
  cases hl : l[j]? with
  | none => rw [hl] at hu; cases hu
  | some c =>
    rw [hl] at hu
    cases hu
    obtain ⟨b, o, hp2, hc⟩ := ints_at h hl
    rw [hp] at hp2
    cases hp2
    rw [add_plain]; exact hc
theorem ints_none {w : World} {l : List Int} (h : lyI.Row w none l) : l.length = 0 := by
  cases l with
  | nil => rfl
  | cons a l =>
    obtain ⟨b, o, hp, _⟩ := ints_at (i := 0) h rfl
    cases hp

end Go.Proofs.YtjmfjlffcopnnaaDoor
