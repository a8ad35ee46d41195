/-
  Drf, Tke, in one text. Conditions: as each theorem's premises say.
-/
import Derived.Test.YtdhkjhdbaofdcaaMpB
import Derived.Test.YtdhkjhdbaofdcaaPa1
import Derived.Test.YtdhkjhdbaofdcaaRw4
import Derived.Test.YtdhkjhdbaofdcaaStm
namespace Go.Proofs.Ytdhkjhdbaofdcaa
open Go.RowKit

/-- A node's cells stand for a node, its children's row as it lies in w. -/
def PairR (w : World) (v : Nv) (m : Nd) : Prop := v.id = m.id ∧ v.kd = m.kd ∧ v.fr = m.fr ∧ v.tt = Nd.to m ∧ v.kn = m.kids.length ∧ lyI.Row w v.kp m.kids
/-- The draft's nodes, in whatever row, stand for these. -/
structure DrN (w : World) (l : List Nv) (ns : List Nd) : Prop where
  nod : (l.map Nv.id).Nodup
  mem : ∀ m ∈ ns, ∃ v ∈ l, v.id = m.id
  fit : ∀ v ∈ l, ∃ m ∈ ns, PairR w v m
theorem drN_none (w : World) : DrN w [] [] := ⟨by simp, fun m hm => by simp at hm, fun v hv => by simp at hv⟩
/-- The draft at db, its map at b. -/
structure DrS (W : World) (base db b : Nat) (root next : Int) (l : List Nv) : Prop where
  obj : W.heap[db]? = some (.cells #[.int .i64 root, .int .i64 next, .map (some b)] 85 (0, 0))
  map : MapS W b l
  newD : base ≤ db
  newB : base ≤ b
theorem DrS.later {W W' : World} {base db b : Nat} {root next : Int} {l : List Nv} (h : DrS W base db b root next l) (hb : Bl W W') : DrS W' base db b root next l :=
  ⟨heap_later h.obj hb, h.map.below hb, h.newD, h.newB⟩
theorem DrS.ne {W : World} {base db b : Nat} {root next : Int} {l : List Nv} (h : DrS W base db b root next l) : b ≠ db := fun e => by
  obtain ⟨es, c, hm⟩ := h.map
  have := hm.at'
  rw [e, h.obj] at this
  cases this
theorem DrS.put {W : World} {base db b : Nat} {root next : Int} {l l' : List Nv} {o : Obj} (h : DrS W base db b root next l) (hm : MapS (setB W b o) b l') : DrS (setB W b o) base db b root next l' :=
  ⟨((setB_grown W b o).block db (Array.getElem?_eq_some_iff.1 h.obj).1 (fun e => h.ne (Option.some.inj e).symm)).trans h.obj, hm, h.newD, h.newB⟩
theorem DrS.next {W : World} {base db b : Nat} {root next : Int} {l : List Nv} (h : DrS W base db b root next l) (nx : Int) : DrS (W.setCell ⟨db, 1, none⟩ (.int .i64 nx)) base db b root nx l :=
  ⟨by rw [heap_setCell_at h.obj]; rfl, h.map.kept (set_grown W db 1 _) (fun e => h.ne (Option.some.inj e).symm), h.newD, h.newB⟩
theorem Bl.putB {w W : World} (h : Bl w W) {b : Nat} (hb : w.heap.size ≤ b) (o : Obj) : Bl w (setB W b o) := Below.trans h (below_grown (setB_grown W b o) hb h.size)
theorem below_putB {W W' : World} {base b : Nat} (h : Below base W W') (h0 : base ≤ W.heap.size) (hb : base ≤ b) (o : Obj) : Below base W (setB W' b o) := h.trans (below_grown (setB_grown W' b o) hb (Nat.le_trans h0 h.size))

/-! Lists -/
theorem nod_parts {l : List Nv} {j : Nat} {u : Nv} (hn : (l.map Nv.id).Nodup) (hj : l[j]? = some u) : (∀ v ∈ l.take j, v.id ≠ u.id) ∧ (∀ v ∈ l.drop (j + 1), v.id ≠ u.id) := by
  obtain ⟨h1, hl⟩ := split_at hj
  rw [h1, List.map_append, List.map_cons, List.nodup_append, List.nodup_cons] at hn
  refine ⟨fun v hv e => ?_, fun v hv e => ?_⟩
  · exact hn.2.2 v.id (List.mem_map.2 ⟨v, hv, rfl⟩) u.id (by simp) e
  · exact hn.2.1.1 (List.mem_map.2 ⟨v, hv, e⟩)
theorem mem_erase {l : List Nv} {j : Nat} {u : Nv} (hn : (l.map Nv.id).Nodup) (hj : l[j]? = some u) (v : Nv) : v ∈ l.eraseIdx j ↔ v ∈ l ∧ v.id ≠ u.id := by
  obtain ⟨a, b⟩ := nod_parts hn hj
  obtain ⟨h1, hl⟩ := split_at hj
  rw [List.eraseIdx_eq_take_drop_succ]
  constructor
  · intro h
    rcases List.mem_append.1 h with h | h
    · exact ⟨List.mem_of_mem_take h, a v h⟩
    · exact ⟨List.mem_of_mem_drop h, b v h⟩
  · rintro ⟨h, hne⟩
    rw [h1] at h
    rcases List.mem_append.1 h with h | h
    · exact List.mem_append.2 (.inl h)
    · rcases List.mem_cons.1 h with rfl | h
      · exact absurd rfl hne
      · exact List.mem_append.2 (.inr h)
theorem mem_setN {l : List Nv} {j : Nat} {u : Nv} (hn : (l.map Nv.id).Nodup) (hj : l[j]? = some u) (x v : Nv) : v ∈ l.set j x ↔ v = x ∨ (v ∈ l ∧ v.id ≠ u.id) := by
  obtain ⟨a, b⟩ := nod_parts hn hj
  obtain ⟨h1, hl⟩ := split_at hj
  rw [List.set_eq_take_append_cons_drop, if_pos hl]
  constructor
  · intro h
    rcases List.mem_append.1 h with h | h
    · exact .inr ⟨List.mem_of_mem_take h, a v h⟩
    · rcases List.mem_cons.1 h with rfl | h
      · exact .inl rfl
      · exact .inr ⟨List.mem_of_mem_drop h, b v h⟩
  · rintro (rfl | ⟨h, hne⟩)
    · simp
    · rw [h1] at h
      rcases List.mem_append.1 h with h | h
      · exact List.mem_append.2 (.inl h)
      · rcases List.mem_cons.1 h with rfl | h
        · exact absurd rfl hne
        · exact List.mem_append.2 (.inr (List.mem_cons_of_mem _ h))
theorem set_idsN {l : List Nv} {j : Nat} {u x : Nv} (hj : l[j]? = some u) (hx : x.id = u.id) : (l.set j x).map Nv.id = l.map Nv.id := by
  obtain ⟨h1, hl⟩ := split_at hj
  rw [List.map_set, hx]
  have : (l.map Nv.id)[j]? = some u.id := by rw [List.getElem?_map, hj]; rfl
  obtain ⟨hl2, hx2⟩ := List.getElem?_eq_some_iff.1 this
  conv => lhs; rw [← hx2]
  exact List.set_getElem_self hl2
theorem DrN.here {w : World} {l : List Nv} {ns : List Nd} (h : DrN w l ns) (k : Int) : (getN ns k).isNone = true ↔ ∀ v ∈ l, v.id ≠ k := by
  rw [Option.isNone_iff_eq_none, get_none]
  constructor
  · intro hn v hv e
    obtain ⟨m, hm, hp⟩ := h.fit v hv
    exact hn m hm (hp.1.symm.trans e)
  · intro hn m hm e
    obtain ⟨v, hv, he⟩ := h.mem m hm
    exact hn v hv (he.trans e)
theorem DrN.drop {w : World} {l : List Nv} {ns : List Nd} (h : DrN w l ns) {j : Nat} {u : Nv} (hj : l[j]? = some u) : DrN w (l.eraseIdx j) (ns.filter (fun x => !(x.id == u.id))) := by
  refine ⟨?_, fun m hm => ?_, fun v hv => ?_⟩
  · rw [erase_map]
    exact (List.eraseIdx_sublist _ _).nodup h.nod
  · obtain ⟨hm1, hm2⟩ := List.mem_filter.1 hm
    have hne : m.id ≠ u.id := by simpa using hm2
    obtain ⟨v, hv, he⟩ := h.mem m hm1
    exact ⟨v, (mem_erase h.nod hj v).2 ⟨hv, fun e => hne (he.symm.trans e)⟩, he⟩
  · obtain ⟨hv1, hv2⟩ := (mem_erase h.nod hj v).1 hv
    obtain ⟨m, hm, hp⟩ := h.fit v hv1
    refine ⟨m, List.mem_filter.2 ⟨hm, ?_⟩, hp⟩
    have : m.id ≠ u.id := fun e => hv2 (hp.1.trans e)
    simpa using this
theorem DrN.make {w : World} {l : List Nv} {ns : List Nd} (h : DrN w l ns) (x : Nv) (m : Nd) (hn : ∀ v ∈ l, v.id ≠ x.id) (hp : PairR w x m) : DrN w (l ++ [x]) (insN m ns) := by
  have hpm := ins_perm m ns
  refine ⟨?_, fun y hy => ?_, fun v hv => ?_⟩
  · rw [List.map_append, List.nodup_append]
    refine ⟨h.nod, by simp, ?_⟩
    intro a ha c hc e
    obtain ⟨v, hv, rfl⟩ := List.mem_map.1 ha
    simp at hc
    exact hn v hv (e.trans hc)
  · rcases List.mem_cons.1 (hpm.mem_iff.1 hy) with rfl | hy
    · exact ⟨x, by simp, hp.1⟩
    · obtain ⟨v, hv, he⟩ := h.mem y hy
      exact ⟨v, List.mem_append.2 (.inl hv), he⟩
  · rcases List.mem_append.1 hv with hv | hv
    · obtain ⟨y, hy, hq⟩ := h.fit v hv
      exact ⟨y, hpm.mem_iff.2 (List.mem_cons_of_mem _ hy), hq⟩
    · simp at hv
      subst hv
      exact ⟨m, hpm.mem_iff.2 (by simp), hp⟩
theorem DrN.turn {w : World} {l : List Nv} {ns : List Nd} (h : DrN w l ns) {j : Nat} {u : Nv} (hj : l[j]? = some u) (f : Nd → Nd) (x : Nv) (hx : x.id = u.id) (hf : ∀ m, (f m).id = m.id) (hp : ∀ m, PairR w u m → PairR w x (f m)) : DrN w (l.set j x) (ns.map (fun m => if m.id = u.id then f m else m)) := by
  refine ⟨by rw [set_idsN hj hx]; exact h.nod, fun y hy => ?_, fun v hv => ?_⟩
  · obtain ⟨m, hm, rfl⟩ := List.mem_map.1 hy
    by_cases e : m.id = u.id
    · rw [if_pos e]
      exact ⟨x, (mem_setN h.nod hj x x).2 (.inl rfl), by rw [hx, hf, e]⟩
    · rw [if_neg e]
      obtain ⟨v, hv, he⟩ := h.mem m hm
      exact ⟨v, (mem_setN h.nod hj x v).2 (.inr ⟨hv, fun e' => e (he.symm.trans e')⟩), he⟩
  · rcases (mem_setN h.nod hj x v).1 hv with rfl | ⟨hv, hne⟩
    · obtain ⟨m, hm, hq⟩ := h.fit u (List.mem_of_getElem? hj)
      exact ⟨f m, List.mem_map.2 ⟨m, hm, by rw [if_pos hq.1.symm]⟩, hp m hq⟩
    · obtain ⟨m, hm, hq⟩ := h.fit v hv
      exact ⟨m, List.mem_map.2 ⟨m, hm, by rw [if_neg (fun e => hne (hq.1.trans e))]⟩, hq⟩
/-- As many nodes as ids. -/
theorem DrN.snoc {w : World} {l : List Nv} {ns : List Nd} (h : DrN w l ns) (x : Nv) (m : Nd) (hn : ∀ y ∈ ns, y.id ≠ m.id) (hp : PairR w x m) : DrN w (l ++ [x]) (ns ++ [m]) := by
  have hn2 : ∀ v ∈ l, v.id ≠ x.id := fun v hv e => by
    obtain ⟨y, hy, hq⟩ := h.fit v hv
    exact hn y hy (hq.1.symm.trans (e.trans hp.1))
  refine ⟨?_, fun y hy => ?_, fun v hv => ?_⟩
  · rw [List.map_append, List.nodup_append]
    refine ⟨h.nod, by simp, ?_⟩
    intro a ha c hc e
    obtain ⟨v, hv, rfl⟩ := List.mem_map.1 ha
    simp at hc
    exact hn2 v hv (e.trans hc)
  · rcases List.mem_append.1 hy with hy | hy
    · obtain ⟨v, hv, he⟩ := h.mem y hy
      exact ⟨v, List.mem_append.2 (.inl hv), he⟩
    · simp at hy
      subst hy
      exact ⟨x, by simp, hp.1⟩
  · rcases List.mem_append.1 hv with hv | hv
    · obtain ⟨y, hy, hq⟩ := h.fit v hv
      exact ⟨y, List.mem_append.2 (.inl hy), hq⟩
    · simp at hv
      subst hv
      exact ⟨m, by simp, hp⟩
theorem DrN.fresh {w : World} {l : List Nv} {ns : List Nd} (h : DrN w l ns) {k : Int} (hn : ∀ y ∈ ns, y.id ≠ k) : atK k (l.map kvN) 0 = none := by
  rcases at_cases k l 0 with ⟨j, v, h1, h2, h3⟩ | ⟨-, h2⟩
  · obtain ⟨y, hy, hq⟩ := h.fit v (List.mem_of_getElem? h1)
    exact absurd (hq.1.symm.trans h2) (hn y hy)
  · exact h2
theorem MapS.drew {w : World} {b : Nat} {l : List Nv} (h : MapS w b l) : MapS w.drew b l := h.below (below_drew (Below.refl _ _))

/-- What newDraft answers. -/
def NewP (root next : Int) (ns : List Nd) (w : World) (e : Ending) (w' : World) : Prop := ∃ db b l, e = .returned (.pointer (some ⟨db, 0, none⟩)) ∧ DrS w' w.heap.size db b root next l ∧ DrN w l ns ∧ Bl w w'

set_option maxRecDepth 100000 in
set_option maxHeartbeats 2000000 in
theorem newDraft_any (root next : Int) (p : Option Addr) (ns : List Nd) (N cap : Nat) (hN : ns.length = N) (hl : N ≤ 4096) (hr : risesB ns = true) (w : World) (h : NodesR w p ns) : Calls Try.prog 20 #[trV root next p N cap] w (NewP root next ns w) := by
  have R := Lib.hid h; have HN := Lib.hid hN; have RI := Lib.hid hr
  clear h hN hr
  unfold trV
  have MK := fun W => run_mk (N : Int) W
  have TB : Hid ((w.alloc (.cells #[.int .i64 root, .int .i64 next, .slice p N cap] 24)).heap[w.heap.size]? = some (.cells #[.int .i64 root, .int .i64 next, .slice p N cap] 24 (0, 0))) := Lib.hid (heap_new rfl _ _)
  have BT : Hid (Bl w (w.alloc (.cells #[.int .i64 root, .int .i64 next, .slice p N cap] 24))) := Lib.hid (Bl.alloc (Bl.refl _) _)
  go_enter Try.func20, Try.ntmps20
  go_upto_region 1 with fail
  generalize (w.alloc (.cells #[.int .i64 root, .int .i64 next, .slice p N cap] 24)) = w1 at TB BT ⊢
  obtain ⟨tb, htb⟩ : ∃ g, g = w.heap.size := ⟨_, rfl⟩
  rw [← htb] at TB ⊢
  clear htb
  have t0 := (obj_cells TB.out).1 0 _ rfl; have t1 := (obj_cells TB.out).1 1 _ rfl; have t2 := (obj_cells TB.out).1 2 _ rfl
  have tl : tb < w1.heap.size := (obj_cells TB.out).2.2
  have D0 : Hid (DrS ((w1.alloc (.map #[] 0)).alloc (.cells #[.int .i64 root, .int .i64 next, .map (some w1.heap.size)] 85)).drew w.heap.size (w1.heap.size + 1) w1.heap.size root next []) := Lib.hid ⟨(show ((w1.alloc (.map #[] 0)).alloc (.cells #[.int .i64 root, .int .i64 next, .map (some w1.heap.size)] 85)).heap[w1.heap.size + 1]? = _ from heap_new (by simp) _ _), MapS.drew ((mapS_made w1).below (Bl.alloc (Bl.refl _) _)), by have := BT.out.size; omega, BT.out.size⟩
  have B0 : Hid (Bl w ((w1.alloc (.map #[] 0)).alloc (.cells #[.int .i64 root, .int .i64 next, .map (some w1.heap.size)] 85)).drew) := Lib.hid (Bl.drew (Bl.alloc (Bl.alloc BT.out _) _))
  have T0 : Hid (((w1.alloc (.map #[] 0)).alloc (.cells #[.int .i64 root, .int .i64 next, .map (some w1.heap.size)] 85)).drew.heap[tb]? = some (.cells #[.int .i64 root, .int .i64 next, .slice p N cap] 24 (0, 0))) := Lib.hid (heap_later TB.out (Bl.drew (Bl.alloc (Bl.alloc (Bl.refl _) _) _)))
  go_region
  clear t0 t1 t2 tl MK TB BT
  generalize ((w1.alloc (.map #[] 0)).alloc (.cells #[.int .i64 root, .int .i64 next, .map (some w1.heap.size)] 85)).drew = w2 at D0 B0 T0 ⊢
  generalize w1.heap.size + 1 = db at D0 ⊢
  generalize w1.heap.size = b at D0 ⊢
  have t2 := (obj_cells T0.out).1 2 _ rfl
  go_wp2_with fail
  clear t2 T0
  go_loopw [19] (fun v wr => ∃ (j : Nat) (l : List Nv), j ≤ N ∧ v = .int .i64 j ∧ Hid (DrS wr w.heap.size db b root next l) ∧ Hid (DrN w l (ns.take j)) ∧ Hid (Bl w wr)) (fun v _ => N - (intOf v).toNat)
  case atStart => exact ⟨0, [], by omega, rfl, D0, Lib.hid (drN_none w), B0⟩
  case round =>
    clear D0 B0
    obtain ⟨j, l, hj, rfl, D, E, B⟩ := hrel
    by_cases hlt : j < N
    · obtain ⟨x, hx⟩ : ∃ x, ns[j]? = some x := ⟨_, List.getElem?_eq_getElem (by rw [HN.out]; exact hlt)⟩
      obtain ⟨bb, o, kp, kc, rfl, hat, hrow⟩ := R.out j x hx
      have n0 : wr.cell? ⟨bb, o + j * 5, none⟩ = some (.int .i64 x.id) := cell_later B.out (hat 0 _ rfl)
      have n1 : wr.cell? ⟨bb, o + j * 5 + 1, none⟩ = some (.int .i64 x.kd) := cell_later B.out (hat 1 _ rfl)
      have n2 : wr.cell? ⟨bb, o + j * 5 + 2, none⟩ = some (.int .i64 x.fr) := cell_later B.out (hat 2 _ rfl)
      have n3 : wr.cell? ⟨bb, o + j * 5 + 3, none⟩ = some (.int .i64 (Nd.to x)) := cell_later B.out (hat 3 _ rfl)
      have n4 : wr.cell? ⟨bb, o + j * 5 + 4, none⟩ = some (.slice kp x.kids.length kc) := cell_later B.out (hat 4 _ rfl)
      have hi0 : (0 : Int) ≤ (j : Int) := by omega
      have hi1 : (j : Int) < (N : Int) := by omega
      have FR : Hid (∀ y ∈ ns.take j, y.id ≠ x.id) := Lib.hid (take_new RI.out hx)
      have E2 : Hid (DrN w (l ++ [⟨x.id, x.kd, x.fr, Nd.to x, kp, x.kids.length, kc⟩]) (ns.take (j + 1))) := Lib.hid (by
        rw [List.take_add_one, hx]
        exact E.out.snoc ⟨x.id, x.kd, x.fr, Nd.to x, kp, x.kids.length, kc⟩ x FR.out ⟨rfl, rfl, rfl, rfl, rfl, hrow⟩)
      have BA : Hid (Bl wr (wr.alloc (.cells #[.int .i64 x.id, .int .i64 x.kd, .int .i64 x.fr, .int .i64 (Nd.to x), .slice kp x.kids.length kc] 46))) := Lib.hid (Bl.alloc (Bl.refl _) _)
      have XB : Hid ((wr.alloc (.cells #[.int .i64 x.id, .int .i64 x.kd, .int .i64 x.fr, .int .i64 (Nd.to x), .slice kp x.kids.length kc] 46)).heap[wr.heap.size]? = some (.cells #[.int .i64 x.id, .int .i64 x.kd, .int .i64 x.fr, .int .i64 (Nd.to x), .slice kp x.kids.length kc] 46 (0, 0))) := Lib.hid (heap_new rfl _ _)
      clear hat hrow hx
      go_upto_region 5 with fail
      clear n0 n1 n2 n3 n4
      generalize (wr.alloc (.cells #[.int .i64 x.id, .int .i64 x.kd, .int .i64 x.fr, .int .i64 (Nd.to x), .slice kp x.kids.length kc] 46)) = w3 at BA XB ⊢
      obtain ⟨xb, hxb⟩ : ∃ g, g = wr.heap.size := ⟨_, rfl⟩
      rw [← hxb] at XB ⊢
      clear hxb
      have D3 := Lib.hid (D.out.later BA.out)
      have B3 := Lib.hid (B.out.call BA.out)
      have D3d := Lib.hid (D3.out.later (Bl.drew (Bl.refl w3)))
      have B3d := Lib.hid (Bl.drew B3.out)
      obtain ⟨ob, hU, hM⟩ := mapS_new D3d.out.map ⟨x.id, x.kd, x.fr, Nd.to x, kp, x.kids.length, kc⟩ (E.out.fresh FR.out)
      unfold vN at hU
      dsimp only at hU
      have D4 := Lib.hid (D3d.out.put hM)
      have B4 := Lib.hid (Bl.putB B3d.out D3.out.newB ob)
      have x0 := (obj_cells XB.out).1 0 _ rfl; have x1 := (obj_cells XB.out).1 1 _ rfl; have x2 := (obj_cells XB.out).1 2 _ rfl; have x3 := (obj_cells XB.out).1 3 _ rfl; have x4 := (obj_cells XB.out).1 4 _ rfl
      have xl : xb < w3.heap.size := (obj_cells XB.out).2.2
      have d2 := (obj_cells D3.out.obj).1 2 _ rfl
      have dl : db < w3.heap.size := (obj_cells D3.out.obj).2.2
      clear hM
      go_region
      go_wp2_with fail
      go_roundw
      case rel => exact ⟨j + 1, _, by omega, by go_num, D4, E2, B4⟩
      case measure => simp [intOf]; omega
    · have E' : Hid (DrN w l ns) := Lib.hid (by have := E.out; rwa [List.take_of_length_le (by rw [HN.out]; omega)] at this)
      go_wp2_with fail
      go_ret
      exact ⟨db, b, l, rfl, D.out, E'.out, B.out⟩

theorem DrS.box {W : World} {base db b nb i : Nat} {root next : Int} {l : List Nv} {c : Array Value} (h : DrS W base db b root next l) (hx : W.heap[nb]? = some (.cells c 46 (0, 0))) (u : Value) : DrS (W.setCell ⟨nb, i, none⟩ u) base db b root next l := by
  have hg := set_grown W nb i u
  refine ⟨(hg.block db (Array.getElem?_eq_some_iff.1 h.obj).1 (fun e => type_ne h.obj hx (by decide) (Option.some.inj e))).trans h.obj, h.map.kept hg (fun e => ?_), h.newD, h.newB⟩
  have e2 := Option.some.inj e
  obtain ⟨es, ck, hm⟩ := h.map
  have := hm.at'
  rw [← e2, hx] at this
  cases this
/-- What take answers: is the step fit; if so it is done. -/
def TakeP (w0 : World) (base db b : Nat) (root nx : Int) (ns : List Nd) (s : St) (w : World) (e : Ending) (w' : World) : Prop := Below base w w' ∧
  ((fitsN s ns = false ∧ e = .returned (.bool false)) ∨ (fitsN s ns = true ∧ e = .returned (.bool true) ∧ ∃ l', DrS w' base db b root (actN s (ns, nx)).2 l' ∧ DrN w0 l' (actN s (ns, nx)).1))
theorem fits_no1 {w0 : World} {l : List Nv} {ns : List Nd} {s : St} (hE : DrN w0 l ns) (hk : s.kd = 1) {v : Nv} (hv : v ∈ l) (hi : v.id = s.id) : fitsN s ns = false := by
  unfold fitsN
  have h1 : (getN ns s.id).isNone = false := by
    cases h : (getN ns s.id).isNone with
    | false => rfl
    | true => exact absurd hi ((hE.here s.id).1 h v hv)
  rw [h1, hk]
  simp
theorem fits_noX {w0 : World} {l : List Nv} {ns : List Nd} {s : St} (hE : DrN w0 l ns) (hk : ¬ s.kd = 1) (hv : ∀ v ∈ l, v.id ≠ s.id) : fitsN s ns = false := by
  unfold fitsN
  rw [(hE.here s.id).2 hv, beq_eq_false_iff_ne.2 hk]
  simp
theorem fits_yes1 {w0 : World} {l : List Nv} {ns : List Nd} {s : St} (hE : DrN w0 l ns) (hm : stepMay s = true) (hk : s.kd = 1) (hv : ∀ v ∈ l, v.id ≠ s.id) : fitsN s ns = true := by
  unfold fitsN
  rw [(hE.here s.id).2 hv, hm, hk]
  rfl
theorem fits_yesX {w0 : World} {l : List Nv} {ns : List Nd} {s : St} (hE : DrN w0 l ns) (hm : stepMay s = true) (hk : ¬ s.kd = 1) {v : Nv} (hv : v ∈ l) (hi : v.id = s.id) : fitsN s ns = true := by
  unfold fitsN
  have h1 : (getN ns s.id).isNone = false := by
    cases h : (getN ns s.id).isNone with
    | false => rfl
    | true => exact absurd hi ((hE.here s.id).1 h v hv)
  rw [h1, hm, beq_eq_false_iff_ne.2 hk]
  rfl
theorem below_box {w : World} {base : Nat} (h0 : base ≤ w.heap.size) (o : Obj) : Below base w (w.alloc o) := (Below.refl base w).alloc h0 o

set_option maxRecDepth 100000 in
set_option maxHeartbeats 4000000 in
theorem tk_no1 (w0 w : World) (base db b : Nat) (root nx : Int) (l : List Nv) (ns : List Nd) (s : St) (kp : Option Addr) (kc : Nat) (h : DrS w base db b root nx l) (hE : DrN w0 l ns) (hm : stepMay s = true) (hK : lyI.Row w0 kp s.kids) (h0 : base ≤ w.heap.size) (hk : s.kd = 1) {j : Nat} {v : Nv} (hj : l[j]? = some v) (hv : v.id = s.id) (hat : atK s.id (l.map kvN) 0 = some (j, vN v)) : Calls Try.prog 22 #[.pointer (some ⟨db, 0, none⟩), stV s kp kc] w (TakeP w0 base db b root nx ns s w) := by
  have F := Lib.hid (fits_no1 hE hk (List.mem_of_getElem? hj) hv)
  obtain ⟨hid0, hid1⟩ := may_id hm
  obtain ⟨skd, sid, snd, sfr, sto, kids⟩ := s
  dsimp only at hk hv hK hat hid0 hid1
  obtain ⟨vid, vkd, vfr, vtt, vkp, vkn, vkc⟩ := v
  dsimp only at hv
  have hv2 := hv.symm
  subst hv2
  subst hk
  unfold stV
  dsimp only
  generalize kids.length = kn at *
  have SB : Hid ((w.alloc (.cells #[.int .i64 1, .int .i64 sid, .int .i64 snd, .int .i64 sfr, .int .i64 sto, .slice kp kn kc] 42)).heap[w.heap.size]? = some (.cells #[.int .i64 1, .int .i64 sid, .int .i64 snd, .int .i64 sfr, .int .i64 sto, .slice kp kn kc] 42 (0, 0))) := Lib.hid (heap_new rfl _ _)
  have B1 : Hid (Below base w (w.alloc (.cells #[.int .i64 1, .int .i64 sid, .int .i64 snd, .int .i64 sfr, .int .i64 sto, .slice kp kn kc] 42))) := Lib.hid (below_box h0 _)
  have D1 : Hid (DrS (w.alloc (.cells #[.int .i64 1, .int .i64 sid, .int .i64 snd, .int .i64 sfr, .int .i64 sto, .slice kp kn kc] 42)) base db b root nx l) := Lib.hid (h.later (Bl.alloc (Bl.refl _) _))
  have S0 : Hid (base ≤ w.heap.size ∧ w.heap.size ≤ (w.alloc (.cells #[.int .i64 1, .int .i64 sid, .int .i64 snd, .int .i64 sfr, .int .i64 sto, .slice kp kn kc] 42)).heap.size) := Lib.hid ⟨h0, by simp⟩
  have AT := Lib.hid hat; have JJ := Lib.hid hj
  clear h hE hm hK h0 hat hj
  go_enter Try.func22, Try.ntmps22
  go_upto_region 1 with fail
  generalize (w.alloc (.cells #[.int .i64 1, .int .i64 sid, .int .i64 snd, .int .i64 sfr, .int .i64 sto, .slice kp kn kc] 42)) = w1 at SB B1 D1 S0 ⊢
  obtain ⟨sb, hsb⟩ : ∃ g, g = w.heap.size := ⟨_, rfl⟩
  rw [← hsb] at SB ⊢
  clear hsb
  have s0 := (obj_cells SB.out).1 0 _ rfl; have s1 := (obj_cells SB.out).1 1 _ rfl; have s2 := (obj_cells SB.out).1 2 _ rfl; have s3 := (obj_cells SB.out).1 3 _ rfl; have s4 := (obj_cells SB.out).1 4 _ rfl; have s5 := (obj_cells SB.out).1 5 _ rfl
  have sl : sb < w1.heap.size := (obj_cells SB.out).2.2
  have d2 := (obj_cells D1.out.obj).1 2 _ rfl
  have dl : db < w1.heap.size := (obj_cells D1.out.obj).2.2
  have LK := mapS_look ((D1.out.later (Bl.drew (Bl.alloc (Bl.refl w1) (.cells #[.int .i64 0, .int .i64 0, .int .i64 0, .int .i64 0, .slice none 0 0] 46)))).map) AT.out
  have LK0 := mapS_look (D1.out.map.drew) AT.out
  unfold vN at LK LK0
  dsimp only at LK LK0
  have L2 : Hid (Bl w1 (w1.alloc (.cells #[.int .i64 sid, .int .i64 vkd, .int .i64 vfr, .int .i64 vtt, .slice vkp vkn vkc] 46)).drew) := Lib.hid (Bl.drew (Bl.alloc (Bl.refl _) _))
  have N2 : Hid ((w1.alloc (.cells #[.int .i64 sid, .int .i64 vkd, .int .i64 vfr, .int .i64 vtt, .slice vkp vkn vkc] 46)).drew.heap[w1.heap.size]? = some (.cells #[.int .i64 sid, .int .i64 vkd, .int .i64 vfr, .int .i64 vtt, .slice vkp vkn vkc] 46 (0, 0))) := Lib.hid (show (w1.alloc (.cells #[.int .i64 sid, .int .i64 vkd, .int .i64 vfr, .int .i64 vtt, .slice vkp vkn vkc] 46)).heap[w1.heap.size]? = _ from heap_new rfl _ _)
  go_region
  all_goals
    clear s0 s1 s2 s3 s4 s5 sl d2 dl LK LK0
    generalize (w1.alloc (.cells #[.int .i64 sid, .int .i64 vkd, .int .i64 vfr, .int .i64 vtt, .slice vkp vkn vkc] 46)).drew = w2 at L2 N2 ⊢
    obtain ⟨nb, hnb⟩ : ∃ g, g = w1.heap.size := ⟨_, rfl⟩
    rw [← hnb] at N2 ⊢
    have NB : Hid (base ≤ nb) := Lib.hid (by have := S0.out; omega)
    clear hnb
    have SB2 := Lib.hid (heap_later SB.out L2.out)
    have D2 := Lib.hid (D1.out.later L2.out)
    have B2 : Hid (Below base w w2) := Lib.hid (B1.out.trans (L2.out.mono (by have := S0.out; omega)))
    clear SB D1 B1 L2 S0
    have s0 := (obj_cells SB2.out).1 0 _ rfl; have s1 := (obj_cells SB2.out).1 1 _ rfl; have s2 := (obj_cells SB2.out).1 2 _ rfl; have s3 := (obj_cells SB2.out).1 3 _ rfl; have s4 := (obj_cells SB2.out).1 4 _ rfl; have s5 := (obj_cells SB2.out).1 5 _ rfl
    have sl : sb < w2.heap.size := (obj_cells SB2.out).2.2
    have d1 := (obj_cells D2.out.obj).1 1 _ rfl; have d2 := (obj_cells D2.out.obj).1 2 _ rfl
    have dl : db < w2.heap.size := (obj_cells D2.out.obj).2.2
    have n0 := (obj_cells N2.out).1 0 _ rfl; have n1 := (obj_cells N2.out).1 1 _ rfl; have n2 := (obj_cells N2.out).1 2 _ rfl; have n3 := (obj_cells N2.out).1 3 _ rfl; have n4 := (obj_cells N2.out).1 4 _ rfl
    have nl : nb < w2.heap.size := (obj_cells N2.out).2.2
    have nf := (obj_cells N2.out).2.1
    go_wp2_with fail
    go_ret
    exact ⟨B2.out, .inl ⟨F.out, rfl⟩⟩

set_option maxRecDepth 100000 in
set_option maxHeartbeats 4000000 in
theorem tk_noX (w0 w : World) (base db b : Nat) (root nx : Int) (l : List Nv) (ns : List Nd) (s : St) (kp : Option Addr) (kc : Nat) (h : DrS w base db b root nx l) (hE : DrN w0 l ns) (hm : stepMay s = true) (hK : lyI.Row w0 kp s.kids) (h0 : base ≤ w.heap.size) (hk : ¬ s.kd = 1) (hv : ∀ v ∈ l, v.id ≠ s.id) (hat : atK s.id (l.map kvN) 0 = none) : Calls Try.prog 22 #[.pointer (some ⟨db, 0, none⟩), stV s kp kc] w (TakeP w0 base db b root nx ns s w) := by
  have F := Lib.hid (fits_noX hE hk hv)
  obtain ⟨hid0, hid1⟩ := may_id hm
  obtain ⟨skd, sid, snd, sfr, sto, kids⟩ := s
  dsimp only at hk hv hK hat hid0 hid1
  have q1 : (skd == 1) = false := beq_eq_false_iff_ne.2 hk
  unfold stV
  dsimp only
  generalize kids.length = kn at *
  have SB : Hid ((w.alloc (.cells #[.int .i64 skd, .int .i64 sid, .int .i64 snd, .int .i64 sfr, .int .i64 sto, .slice kp kn kc] 42)).heap[w.heap.size]? = some (.cells #[.int .i64 skd, .int .i64 sid, .int .i64 snd, .int .i64 sfr, .int .i64 sto, .slice kp kn kc] 42 (0, 0))) := Lib.hid (heap_new rfl _ _)
  have B1 : Hid (Below base w (w.alloc (.cells #[.int .i64 skd, .int .i64 sid, .int .i64 snd, .int .i64 sfr, .int .i64 sto, .slice kp kn kc] 42))) := Lib.hid (below_box h0 _)
  have D1 : Hid (DrS (w.alloc (.cells #[.int .i64 skd, .int .i64 sid, .int .i64 snd, .int .i64 sfr, .int .i64 sto, .slice kp kn kc] 42)) base db b root nx l) := Lib.hid (h.later (Bl.alloc (Bl.refl _) _))
  have S0 : Hid (base ≤ w.heap.size ∧ w.heap.size ≤ (w.alloc (.cells #[.int .i64 skd, .int .i64 sid, .int .i64 snd, .int .i64 sfr, .int .i64 sto, .slice kp kn kc] 42)).heap.size) := Lib.hid ⟨h0, by simp⟩
  have AT := Lib.hid hat; have HV := Lib.hid hv
  clear h hE hm hK h0 hat hv
  go_enter Try.func22, Try.ntmps22
  go_upto_region 1 with fail
  generalize (w.alloc (.cells #[.int .i64 skd, .int .i64 sid, .int .i64 snd, .int .i64 sfr, .int .i64 sto, .slice kp kn kc] 42)) = w1 at SB B1 D1 S0 ⊢
  obtain ⟨sb, hsb⟩ : ∃ g, g = w.heap.size := ⟨_, rfl⟩
  rw [← hsb] at SB ⊢
  clear hsb
  have s0 := (obj_cells SB.out).1 0 _ rfl; have s1 := (obj_cells SB.out).1 1 _ rfl; have s2 := (obj_cells SB.out).1 2 _ rfl; have s3 := (obj_cells SB.out).1 3 _ rfl; have s4 := (obj_cells SB.out).1 4 _ rfl; have s5 := (obj_cells SB.out).1 5 _ rfl
  have sl : sb < w1.heap.size := (obj_cells SB.out).2.2
  have d2 := (obj_cells D1.out.obj).1 2 _ rfl
  have dl : db < w1.heap.size := (obj_cells D1.out.obj).2.2
  have LK := mapS_lack ((D1.out.later (Bl.drew (Bl.alloc (Bl.refl w1) (.cells #[.int .i64 0, .int .i64 0, .int .i64 0, .int .i64 0, .slice none 0 0] 46)))).map) AT.out
  have LK0 := mapS_lack (D1.out.map.drew) AT.out
  unfold noN5 at LK LK0
  have L2 : Hid (Bl w1 (w1.alloc (.cells #[.int .i64 0, .int .i64 0, .int .i64 0, .int .i64 0, .slice none 0 0] 46)).drew) := Lib.hid (Bl.drew (Bl.alloc (Bl.refl _) _))
  have N2 : Hid ((w1.alloc (.cells #[.int .i64 0, .int .i64 0, .int .i64 0, .int .i64 0, .slice none 0 0] 46)).drew.heap[w1.heap.size]? = some (.cells #[.int .i64 0, .int .i64 0, .int .i64 0, .int .i64 0, .slice none 0 0] 46 (0, 0))) := Lib.hid (show (w1.alloc (.cells #[.int .i64 0, .int .i64 0, .int .i64 0, .int .i64 0, .slice none 0 0] 46)).heap[w1.heap.size]? = _ from heap_new rfl _ _)
  go_region
  all_goals
    clear s0 s1 s2 s3 s4 s5 sl d2 dl LK LK0
    generalize (w1.alloc (.cells #[.int .i64 0, .int .i64 0, .int .i64 0, .int .i64 0, .slice none 0 0] 46)).drew = w2 at L2 N2 ⊢
    obtain ⟨nb, hnb⟩ : ∃ g, g = w1.heap.size := ⟨_, rfl⟩
    rw [← hnb] at N2 ⊢
    have NB : Hid (base ≤ nb) := Lib.hid (by have := S0.out; omega)
    clear hnb
    have SB2 := Lib.hid (heap_later SB.out L2.out)
    have D2 := Lib.hid (D1.out.later L2.out)
    have B2 : Hid (Below base w w2) := Lib.hid (B1.out.trans (L2.out.mono (by have := S0.out; omega)))
    clear SB D1 B1 L2 S0
    have s0 := (obj_cells SB2.out).1 0 _ rfl; have s1 := (obj_cells SB2.out).1 1 _ rfl; have s2 := (obj_cells SB2.out).1 2 _ rfl; have s3 := (obj_cells SB2.out).1 3 _ rfl; have s4 := (obj_cells SB2.out).1 4 _ rfl; have s5 := (obj_cells SB2.out).1 5 _ rfl
    have sl : sb < w2.heap.size := (obj_cells SB2.out).2.2
    have d1 := (obj_cells D2.out.obj).1 1 _ rfl; have d2 := (obj_cells D2.out.obj).1 2 _ rfl
    have dl : db < w2.heap.size := (obj_cells D2.out.obj).2.2
    have n0 := (obj_cells N2.out).1 0 _ rfl; have n1 := (obj_cells N2.out).1 1 _ rfl; have n2 := (obj_cells N2.out).1 2 _ rfl; have n3 := (obj_cells N2.out).1 3 _ rfl; have n4 := (obj_cells N2.out).1 4 _ rfl
    have nl : nb < w2.heap.size := (obj_cells N2.out).2.2
    have nf := (obj_cells N2.out).2.1
    go_wp2_with fail
    go_ret
    exact ⟨B2.out, .inl ⟨F.out, rfl⟩⟩

set_option maxRecDepth 100000 in
set_option maxHeartbeats 4000000 in
theorem tk_drop (w0 w : World) (base db b : Nat) (root nx : Int) (l : List Nv) (ns : List Nd) (s : St) (kp : Option Addr) (kc : Nat) (h : DrS w base db b root nx l) (hE : DrN w0 l ns) (hm : stepMay s = true) (hK : lyI.Row w0 kp s.kids) (h0 : base ≤ w.heap.size) (hk : s.kd = 0) {j : Nat} {v : Nv} (hj : l[j]? = some v) (hv : v.id = s.id) (hat : atK s.id (l.map kvN) 0 = some (j, vN v)) : Calls Try.prog 22 #[.pointer (some ⟨db, 0, none⟩), stV s kp kc] w (TakeP w0 base db b root nx ns s w) := by
  have F := Lib.hid (fits_yesX hE hm (by rw [hk]; decide) (List.mem_of_getElem? hj) hv)
  obtain ⟨hid0, hid1⟩ := may_id hm
  obtain ⟨skd, sid, snd, sfr, sto, kids⟩ := s
  dsimp only at hk hv hK hat hid0 hid1
  obtain ⟨vid, vkd, vfr, vtt, vkp, vkn, vkc⟩ := v
  dsimp only at hv
  have hv2 := hv.symm
  subst hv2
  subst hk
  have E2 : Hid (DrN w0 (l.eraseIdx j) (ns.filter (fun x => !(x.id == sid)))) := Lib.hid (hE.drop hj)
  unfold stV
  dsimp only
  generalize kids.length = kn at *
  have SB : Hid ((w.alloc (.cells #[.int .i64 0, .int .i64 sid, .int .i64 snd, .int .i64 sfr, .int .i64 sto, .slice kp kn kc] 42)).heap[w.heap.size]? = some (.cells #[.int .i64 0, .int .i64 sid, .int .i64 snd, .int .i64 sfr, .int .i64 sto, .slice kp kn kc] 42 (0, 0))) := Lib.hid (heap_new rfl _ _)
  have B1 : Hid (Below base w (w.alloc (.cells #[.int .i64 0, .int .i64 sid, .int .i64 snd, .int .i64 sfr, .int .i64 sto, .slice kp kn kc] 42))) := Lib.hid (below_box h0 _)
  have D1 : Hid (DrS (w.alloc (.cells #[.int .i64 0, .int .i64 sid, .int .i64 snd, .int .i64 sfr, .int .i64 sto, .slice kp kn kc] 42)) base db b root nx l) := Lib.hid (h.later (Bl.alloc (Bl.refl _) _))
  have S0 : Hid (base ≤ w.heap.size ∧ w.heap.size ≤ (w.alloc (.cells #[.int .i64 0, .int .i64 sid, .int .i64 snd, .int .i64 sfr, .int .i64 sto, .slice kp kn kc] 42)).heap.size) := Lib.hid ⟨h0, by simp⟩
  have AT := Lib.hid hat; have JJ := Lib.hid hj
  clear h hE hm hK h0 hat hj
  go_enter Try.func22, Try.ntmps22
  go_upto_region 1 with fail
  generalize (w.alloc (.cells #[.int .i64 0, .int .i64 sid, .int .i64 snd, .int .i64 sfr, .int .i64 sto, .slice kp kn kc] 42)) = w1 at SB B1 D1 S0 ⊢
  obtain ⟨sb, hsb⟩ : ∃ g, g = w.heap.size := ⟨_, rfl⟩
  rw [← hsb] at SB ⊢
  clear hsb
  have s0 := (obj_cells SB.out).1 0 _ rfl; have s1 := (obj_cells SB.out).1 1 _ rfl; have s2 := (obj_cells SB.out).1 2 _ rfl; have s3 := (obj_cells SB.out).1 3 _ rfl; have s4 := (obj_cells SB.out).1 4 _ rfl; have s5 := (obj_cells SB.out).1 5 _ rfl
  have sl : sb < w1.heap.size := (obj_cells SB.out).2.2
  have d2 := (obj_cells D1.out.obj).1 2 _ rfl
  have dl : db < w1.heap.size := (obj_cells D1.out.obj).2.2
  have LK := mapS_look ((D1.out.later (Bl.drew (Bl.alloc (Bl.refl w1) (.cells #[.int .i64 0, .int .i64 0, .int .i64 0, .int .i64 0, .slice none 0 0] 46)))).map) AT.out
  have LK0 := mapS_look (D1.out.map.drew) AT.out
  unfold vN at LK LK0
  dsimp only at LK LK0
  have L2 : Hid (Bl w1 (w1.alloc (.cells #[.int .i64 sid, .int .i64 vkd, .int .i64 vfr, .int .i64 vtt, .slice vkp vkn vkc] 46)).drew) := Lib.hid (Bl.drew (Bl.alloc (Bl.refl _) _))
  have N2 : Hid ((w1.alloc (.cells #[.int .i64 sid, .int .i64 vkd, .int .i64 vfr, .int .i64 vtt, .slice vkp vkn vkc] 46)).drew.heap[w1.heap.size]? = some (.cells #[.int .i64 sid, .int .i64 vkd, .int .i64 vfr, .int .i64 vtt, .slice vkp vkn vkc] 46 (0, 0))) := Lib.hid (show (w1.alloc (.cells #[.int .i64 sid, .int .i64 vkd, .int .i64 vfr, .int .i64 vtt, .slice vkp vkn vkc] 46)).heap[w1.heap.size]? = _ from heap_new rfl _ _)
  go_region
  all_goals
    clear s0 s1 s2 s3 s4 s5 sl d2 dl LK LK0
    generalize (w1.alloc (.cells #[.int .i64 sid, .int .i64 vkd, .int .i64 vfr, .int .i64 vtt, .slice vkp vkn vkc] 46)).drew = w2 at L2 N2 ⊢
    obtain ⟨nb, hnb⟩ : ∃ g, g = w1.heap.size := ⟨_, rfl⟩
    rw [← hnb] at N2 ⊢
    have NB : Hid (base ≤ nb) := Lib.hid (by have := S0.out; omega)
    clear hnb
    have SB2 := Lib.hid (heap_later SB.out L2.out)
    have D2 := Lib.hid (D1.out.later L2.out)
    have B2 : Hid (Below base w w2) := Lib.hid (B1.out.trans (L2.out.mono (by have := S0.out; omega)))
    clear SB D1 B1 L2 S0
    have s0 := (obj_cells SB2.out).1 0 _ rfl; have s1 := (obj_cells SB2.out).1 1 _ rfl; have s2 := (obj_cells SB2.out).1 2 _ rfl; have s3 := (obj_cells SB2.out).1 3 _ rfl; have s4 := (obj_cells SB2.out).1 4 _ rfl; have s5 := (obj_cells SB2.out).1 5 _ rfl
    have sl : sb < w2.heap.size := (obj_cells SB2.out).2.2
    have d1 := (obj_cells D2.out.obj).1 1 _ rfl; have d2 := (obj_cells D2.out.obj).1 2 _ rfl
    have dl : db < w2.heap.size := (obj_cells D2.out.obj).2.2
    have n0 := (obj_cells N2.out).1 0 _ rfl; have n1 := (obj_cells N2.out).1 1 _ rfl; have n2 := (obj_cells N2.out).1 2 _ rfl; have n3 := (obj_cells N2.out).1 3 _ rfl; have n4 := (obj_cells N2.out).1 4 _ rfl
    have nl : nb < w2.heap.size := (obj_cells N2.out).2.2
    have nf := (obj_cells N2.out).2.1
    have hDD := mapS_drop (D2.out.map.drew) AT.out
    obtain ⟨ob, hD, hM⟩ := hDD
    have D3 := Lib.hid ((D2.out.later (Bl.drew (Bl.refl w2))).put hM)
    have B3 : Hid (Below base w (setB w2.drew b ob)) := Lib.hid ((B2.out.trans ((Bl.drew (Bl.refl w2)).mono (Nat.le_trans NB.out (Nat.le_of_lt nl)))).trans (below_grown (setB_grown _ b ob) D2.out.newB (Nat.le_trans NB.out (Nat.le_of_lt nl))))
    clear hM
    go_upto_region 6 with fail
    go_region
    all_goals
      go_wp2_with fail
      go_ret
      exact ⟨B3.out, .inr ⟨F.out, rfl, _, D3.out, E2.out⟩⟩

set_option maxRecDepth 100000 in
set_option maxHeartbeats 4000000 in
theorem tk_new (w0 w : World) (base db b : Nat) (root nx : Int) (l : List Nv) (ns : List Nd) (s : St) (kp : Option Addr) (kc : Nat) (h : DrS w base db b root nx l) (hE : DrN w0 l ns) (hm : stepMay s = true) (hK : lyI.Row w0 kp s.kids) (h0 : base ≤ w.heap.size) (hk : s.kd = 1) (hv : ∀ v ∈ l, v.id ≠ s.id) (hat : atK s.id (l.map kvN) 0 = none) : Calls Try.prog 22 #[.pointer (some ⟨db, 0, none⟩), stV s kp kc] w (TakeP w0 base db b root nx ns s w) := by
  have F := Lib.hid (fits_yes1 hE hm hk hv)
  obtain ⟨hid0, hid1⟩ := may_id hm
  obtain ⟨skd, sid, snd, sfr, sto, kids⟩ := s
  dsimp only at hk hv hK hat hid0 hid1
  subst hk
  have E2 : Hid (DrN w0 (l ++ [⟨sid, snd, 0, 0, none, 0, 0⟩]) (insN ⟨sid, snd, 0, 0, []⟩ ns)) := Lib.hid (hE.make ⟨sid, snd, 0, 0, none, 0, 0⟩ ⟨sid, snd, 0, 0, []⟩ hv ⟨rfl, rfl, rfl, rfl, rfl, Ly.Row.nil _⟩)
  unfold stV
  dsimp only
  generalize kids.length = kn at *
  have SB : Hid ((w.alloc (.cells #[.int .i64 1, .int .i64 sid, .int .i64 snd, .int .i64 sfr, .int .i64 sto, .slice kp kn kc] 42)).heap[w.heap.size]? = some (.cells #[.int .i64 1, .int .i64 sid, .int .i64 snd, .int .i64 sfr, .int .i64 sto, .slice kp kn kc] 42 (0, 0))) := Lib.hid (heap_new rfl _ _)
  have B1 : Hid (Below base w (w.alloc (.cells #[.int .i64 1, .int .i64 sid, .int .i64 snd, .int .i64 sfr, .int .i64 sto, .slice kp kn kc] 42))) := Lib.hid (below_box h0 _)
  have D1 : Hid (DrS (w.alloc (.cells #[.int .i64 1, .int .i64 sid, .int .i64 snd, .int .i64 sfr, .int .i64 sto, .slice kp kn kc] 42)) base db b root nx l) := Lib.hid (h.later (Bl.alloc (Bl.refl _) _))
  have S0 : Hid (base ≤ w.heap.size ∧ w.heap.size ≤ (w.alloc (.cells #[.int .i64 1, .int .i64 sid, .int .i64 snd, .int .i64 sfr, .int .i64 sto, .slice kp kn kc] 42)).heap.size) := Lib.hid ⟨h0, by simp⟩
  have AT := Lib.hid hat; have HV := Lib.hid hv
  clear h hE hm hK h0 hat hv
  go_enter Try.func22, Try.ntmps22
  go_upto_region 1 with fail
  generalize (w.alloc (.cells #[.int .i64 1, .int .i64 sid, .int .i64 snd, .int .i64 sfr, .int .i64 sto, .slice kp kn kc] 42)) = w1 at SB B1 D1 S0 ⊢
  obtain ⟨sb, hsb⟩ : ∃ g, g = w.heap.size := ⟨_, rfl⟩
  rw [← hsb] at SB ⊢
  clear hsb
  have s0 := (obj_cells SB.out).1 0 _ rfl; have s1 := (obj_cells SB.out).1 1 _ rfl; have s2 := (obj_cells SB.out).1 2 _ rfl; have s3 := (obj_cells SB.out).1 3 _ rfl; have s4 := (obj_cells SB.out).1 4 _ rfl; have s5 := (obj_cells SB.out).1 5 _ rfl
  have sl : sb < w1.heap.size := (obj_cells SB.out).2.2
  have d2 := (obj_cells D1.out.obj).1 2 _ rfl
  have dl : db < w1.heap.size := (obj_cells D1.out.obj).2.2
  have LK := mapS_lack ((D1.out.later (Bl.drew (Bl.alloc (Bl.refl w1) (.cells #[.int .i64 0, .int .i64 0, .int .i64 0, .int .i64 0, .slice none 0 0] 46)))).map) AT.out
  have LK0 := mapS_lack (D1.out.map.drew) AT.out
  unfold noN5 at LK LK0
  have L2 : Hid (Bl w1 (w1.alloc (.cells #[.int .i64 0, .int .i64 0, .int .i64 0, .int .i64 0, .slice none 0 0] 46)).drew) := Lib.hid (Bl.drew (Bl.alloc (Bl.refl _) _))
  have N2 : Hid ((w1.alloc (.cells #[.int .i64 0, .int .i64 0, .int .i64 0, .int .i64 0, .slice none 0 0] 46)).drew.heap[w1.heap.size]? = some (.cells #[.int .i64 0, .int .i64 0, .int .i64 0, .int .i64 0, .slice none 0 0] 46 (0, 0))) := Lib.hid (show (w1.alloc (.cells #[.int .i64 0, .int .i64 0, .int .i64 0, .int .i64 0, .slice none 0 0] 46)).heap[w1.heap.size]? = _ from heap_new rfl _ _)
  go_region
  all_goals
    clear s0 s1 s2 s3 s4 s5 sl d2 dl LK LK0
    generalize (w1.alloc (.cells #[.int .i64 0, .int .i64 0, .int .i64 0, .int .i64 0, .slice none 0 0] 46)).drew = w2 at L2 N2 ⊢
    obtain ⟨nb, hnb⟩ : ∃ g, g = w1.heap.size := ⟨_, rfl⟩
    rw [← hnb] at N2 ⊢
    have NB : Hid (base ≤ nb) := Lib.hid (by have := S0.out; omega)
    clear hnb
    have SB2 := Lib.hid (heap_later SB.out L2.out)
    have D2 := Lib.hid (D1.out.later L2.out)
    have B2 : Hid (Below base w w2) := Lib.hid (B1.out.trans (L2.out.mono (by have := S0.out; omega)))
    clear SB D1 B1 L2 S0
    have s0 := (obj_cells SB2.out).1 0 _ rfl; have s1 := (obj_cells SB2.out).1 1 _ rfl; have s2 := (obj_cells SB2.out).1 2 _ rfl; have s3 := (obj_cells SB2.out).1 3 _ rfl; have s4 := (obj_cells SB2.out).1 4 _ rfl; have s5 := (obj_cells SB2.out).1 5 _ rfl
    have sl : sb < w2.heap.size := (obj_cells SB2.out).2.2
    have d1 := (obj_cells D2.out.obj).1 1 _ rfl; have d2 := (obj_cells D2.out.obj).1 2 _ rfl
    have dl : db < w2.heap.size := (obj_cells D2.out.obj).2.2
    have n0 := (obj_cells N2.out).1 0 _ rfl; have n1 := (obj_cells N2.out).1 1 _ rfl; have n2 := (obj_cells N2.out).1 2 _ rfl; have n3 := (obj_cells N2.out).1 3 _ rfl; have n4 := (obj_cells N2.out).1 4 _ rfl
    have nl : nb < w2.heap.size := (obj_cells N2.out).2.2
    have nf := (obj_cells N2.out).2.1
    have G3 : Hid (w2.grownBy (((((w2.setCell ⟨nb, 0, none⟩ (.int .i64 sid)).setCell ⟨nb, 1, none⟩ (.int .i64 snd)).setCell ⟨nb, 2, none⟩ (.int .i64 0)).setCell ⟨nb, 3, none⟩ (.int .i64 0)).setCell ⟨nb, 4, none⟩ (.slice none 0 0)) (some nb)) := Lib.hid (setAll_one w2 nb 0 [.int .i64 sid, .int .i64 snd, .int .i64 0, .int .i64 0, .slice none 0 0])
    have N3 : Hid ((((((w2.setCell ⟨nb, 0, none⟩ (.int .i64 sid)).setCell ⟨nb, 1, none⟩ (.int .i64 snd)).setCell ⟨nb, 2, none⟩ (.int .i64 0)).setCell ⟨nb, 3, none⟩ (.int .i64 0)).setCell ⟨nb, 4, none⟩ (.slice none 0 0)).heap[nb]? = some (.cells #[.int .i64 sid, .int .i64 snd, .int .i64 0, .int .i64 0, .slice none 0 0] 46 (0, 0))) := Lib.hid (by rw [heap_setCell_at (heap_setCell_at (heap_setCell_at (heap_setCell_at (heap_setCell_at N2.out _) _) _) _) _]; rfl)
    have D3 : Hid (DrS (((((w2.setCell ⟨nb, 0, none⟩ (.int .i64 sid)).setCell ⟨nb, 1, none⟩ (.int .i64 snd)).setCell ⟨nb, 2, none⟩ (.int .i64 0)).setCell ⟨nb, 3, none⟩ (.int .i64 0)).setCell ⟨nb, 4, none⟩ (.slice none 0 0)) base db b root nx l) := Lib.hid (((((D2.out.box N2.out _).box (heap_setCell_at N2.out _) _).box (heap_setCell_at (heap_setCell_at N2.out _) _) _).box (heap_setCell_at (heap_setCell_at (heap_setCell_at N2.out _) _) _) _).box (heap_setCell_at (heap_setCell_at (heap_setCell_at (heap_setCell_at N2.out _) _) _) _) _)
    have B3 : Hid (Below base w (((((w2.setCell ⟨nb, 0, none⟩ (.int .i64 sid)).setCell ⟨nb, 1, none⟩ (.int .i64 snd)).setCell ⟨nb, 2, none⟩ (.int .i64 0)).setCell ⟨nb, 3, none⟩ (.int .i64 0)).setCell ⟨nb, 4, none⟩ (.slice none 0 0))) := Lib.hid (B2.out.trans (below_grown G3.out NB.out (Nat.le_trans NB.out (Nat.le_of_lt nl))))
    have SB3 : Hid ((((((w2.setCell ⟨nb, 0, none⟩ (.int .i64 sid)).setCell ⟨nb, 1, none⟩ (.int .i64 snd)).setCell ⟨nb, 2, none⟩ (.int .i64 0)).setCell ⟨nb, 3, none⟩ (.int .i64 0)).setCell ⟨nb, 4, none⟩ (.slice none 0 0)).heap[sb]? = some (.cells #[.int .i64 1, .int .i64 sid, .int .i64 snd, .int .i64 sfr, .int .i64 sto, .slice kp kn kc] 42 (0, 0))) := Lib.hid ((G3.out.block sb sl (fun e => type_ne SB2.out N2.out (by decide) (Option.some.inj e))).trans SB2.out)
    go_upto_region 10 with fail
    clear s0 s1 s2 s3 s4 s5 sl d1 d2 dl n0 n1 n2 n3 n4 nl nf SB2 D2 B2 N2 G3
    generalize ((((w2.setCell ⟨nb, 0, none⟩ (.int .i64 sid)).setCell ⟨nb, 1, none⟩ (.int .i64 snd)).setCell ⟨nb, 2, none⟩ (.int .i64 0)).setCell ⟨nb, 3, none⟩ (.int .i64 0)).setCell ⟨nb, 4, none⟩ (.slice none 0 0) = w3 at N3 D3 B3 SB3 ⊢
    have s1 := (obj_cells SB3.out).1 1 _ rfl
    have sl : sb < w3.heap.size := (obj_cells SB3.out).2.2
    have d1 := (obj_cells D3.out.obj).1 1 _ rfl; have df := (obj_cells D3.out.obj).2.1
    have dl : db < w3.heap.size := (obj_cells D3.out.obj).2.2
    have hw : IntKind.i64.wrap (sid + 1) = sid + 1 := by simp [IntKind.wrap, IntKind.bits, IntKind.signed]; omega
    obtain ⟨mx, hmx⟩ : ∃ mx, (if nx < sid + 1 then sid + 1 else nx) = mx := ⟨_, rfl⟩
    have MX : Hid (max nx (sid + 1) = mx) := Lib.hid (by rw [← hmx]; split <;> omega)
    go_region
    all_goals
      have D4 : Hid (DrS (w3.setCell ⟨db, 1, none⟩ (.int .i64 mx)).drew base db b root mx l) := Lib.hid ((D3.out.next mx).later (Bl.drew (Bl.refl _)))
      have B4 : Hid (Below base w (w3.setCell ⟨db, 1, none⟩ (.int .i64 mx)).drew) := Lib.hid ((below_set B3.out D3.out.newD _).trans (below_drew (Below.refl _ _)))
      have N4 : Hid ((w3.setCell ⟨db, 1, none⟩ (.int .i64 mx)).drew.heap[nb]? = some (.cells #[.int .i64 sid, .int .i64 snd, .int .i64 0, .int .i64 0, .slice none 0 0] 46 (0, 0))) := Lib.hid (((set_grown w3 db 1 _).block nb (Array.getElem?_eq_some_iff.1 N3.out).1 (fun e => type_ne N3.out D3.out.obj (by decide) (Option.some.inj e))).trans N3.out)
      have SB4 : Hid ((w3.setCell ⟨db, 1, none⟩ (.int .i64 mx)).drew.heap[sb]? = some (.cells #[.int .i64 1, .int .i64 sid, .int .i64 snd, .int .i64 sfr, .int .i64 sto, .slice kp kn kc] 42 (0, 0))) := Lib.hid (((set_grown w3 db 1 _).block sb sl (fun e => type_ne SB3.out D3.out.obj (by decide) (Option.some.inj e))).trans SB3.out)
      clear s1 sl d1 df dl SB3 D3 B3 N3 hw hmx
      generalize (w3.setCell ⟨db, 1, none⟩ (.int .i64 mx)).drew = w4 at D4 B4 N4 SB4 ⊢
      go_upto_region 15 with fail
      have s1 := (obj_cells SB4.out).1 1 _ rfl
      have sl : sb < w4.heap.size := (obj_cells SB4.out).2.2
      have d2 := (obj_cells D4.out.obj).1 2 _ rfl
      have dl : db < w4.heap.size := (obj_cells D4.out.obj).2.2
      have n0 := (obj_cells N4.out).1 0 _ rfl; have n1 := (obj_cells N4.out).1 1 _ rfl; have n2 := (obj_cells N4.out).1 2 _ rfl; have n3 := (obj_cells N4.out).1 3 _ rfl; have n4 := (obj_cells N4.out).1 4 _ rfl
      have nl : nb < w4.heap.size := (obj_cells N4.out).2.2
      obtain ⟨ob, hU, hM⟩ := mapS_new (D4.out.map.drew) ⟨sid, snd, 0, 0, none, 0, 0⟩ AT.out
      unfold vN at hU
      dsimp only at hU
      have D5 := Lib.hid ((D4.out.later (Bl.drew (Bl.refl w4))).put hM)
      have B5 : Hid (Below base w (setB w4.drew b ob)) := Lib.hid ((B4.out.trans ((Bl.drew (Bl.refl w4)).mono (Nat.le_trans NB.out (Nat.le_of_lt nl)))).trans (below_grown (setB_grown _ b ob) D4.out.newB (Nat.le_trans NB.out (Nat.le_of_lt nl))))
      clear hM
      rw [← MX.out] at D5
      go_region
      all_goals
        go_wp2_with fail
        go_ret
        exact ⟨B5.out, .inr ⟨F.out, rfl, _, D5.out, E2.out⟩⟩

set_option maxRecDepth 100000 in
set_option maxHeartbeats 4000000 in
theorem tk_kids (w0 w : World) (base db b : Nat) (root nx : Int) (l : List Nv) (ns : List Nd) (s : St) (kp : Option Addr) (kc : Nat) (h : DrS w base db b root nx l) (hE : DrN w0 l ns) (hm : stepMay s = true) (hK : lyI.Row w0 kp s.kids) (h0 : base ≤ w.heap.size) (hk : s.kd = 2) {j : Nat} {v : Nv} (hj : l[j]? = some v) (hv : v.id = s.id) (hat : atK s.id (l.map kvN) 0 = some (j, vN v)) : Calls Try.prog 22 #[.pointer (some ⟨db, 0, none⟩), stV s kp kc] w (TakeP w0 base db b root nx ns s w) := by
  have F := Lib.hid (fits_yesX hE hm (by rw [hk]; decide) (List.mem_of_getElem? hj) hv)
  obtain ⟨hid0, hid1⟩ := may_id hm
  obtain ⟨skd, sid, snd, sfr, sto, kids⟩ := s
  dsimp only at hk hv hK hat hid0 hid1
  obtain ⟨vid, vkd, vfr, vtt, vkp, vkn, vkc⟩ := v
  dsimp only at hv
  have hv2 := hv.symm
  subst hv2
  subst hk
  have E2 : Hid (DrN w0 (l.set j ⟨sid, vkd, vfr, vtt, kp, kids.length, kc⟩) (ns.map (fun x => if x.id = sid then ⟨x.id, x.kd, x.fr, x.to, kids⟩ else x))) := Lib.hid (by
    have := hE.turn hj (fun x => ⟨x.id, x.kd, x.fr, x.to, kids⟩) ⟨sid, vkd, vfr, vtt, kp, kids.length, kc⟩ rfl (fun _ => rfl) (fun m hp => ⟨hp.1, hp.2.1, hp.2.2.1, hp.2.2.2.1, rfl, hK⟩)
    exact this)
  unfold stV
  dsimp only
  generalize kids.length = kn at *
  have SB : Hid ((w.alloc (.cells #[.int .i64 2, .int .i64 sid, .int .i64 snd, .int .i64 sfr, .int .i64 sto, .slice kp kn kc] 42)).heap[w.heap.size]? = some (.cells #[.int .i64 2, .int .i64 sid, .int .i64 snd, .int .i64 sfr, .int .i64 sto, .slice kp kn kc] 42 (0, 0))) := Lib.hid (heap_new rfl _ _)
  have B1 : Hid (Below base w (w.alloc (.cells #[.int .i64 2, .int .i64 sid, .int .i64 snd, .int .i64 sfr, .int .i64 sto, .slice kp kn kc] 42))) := Lib.hid (below_box h0 _)
  have D1 : Hid (DrS (w.alloc (.cells #[.int .i64 2, .int .i64 sid, .int .i64 snd, .int .i64 sfr, .int .i64 sto, .slice kp kn kc] 42)) base db b root nx l) := Lib.hid (h.later (Bl.alloc (Bl.refl _) _))
  have S0 : Hid (base ≤ w.heap.size ∧ w.heap.size ≤ (w.alloc (.cells #[.int .i64 2, .int .i64 sid, .int .i64 snd, .int .i64 sfr, .int .i64 sto, .slice kp kn kc] 42)).heap.size) := Lib.hid ⟨h0, by simp⟩
  have AT := Lib.hid hat; have JJ := Lib.hid hj
  clear h hE hm hK h0 hat hj
  go_enter Try.func22, Try.ntmps22
  go_upto_region 1 with fail
  generalize (w.alloc (.cells #[.int .i64 2, .int .i64 sid, .int .i64 snd, .int .i64 sfr, .int .i64 sto, .slice kp kn kc] 42)) = w1 at SB B1 D1 S0 ⊢
  obtain ⟨sb, hsb⟩ : ∃ g, g = w.heap.size := ⟨_, rfl⟩
  rw [← hsb] at SB ⊢
  clear hsb
  have s0 := (obj_cells SB.out).1 0 _ rfl; have s1 := (obj_cells SB.out).1 1 _ rfl; have s2 := (obj_cells SB.out).1 2 _ rfl; have s3 := (obj_cells SB.out).1 3 _ rfl; have s4 := (obj_cells SB.out).1 4 _ rfl; have s5 := (obj_cells SB.out).1 5 _ rfl
  have sl : sb < w1.heap.size := (obj_cells SB.out).2.2
  have d2 := (obj_cells D1.out.obj).1 2 _ rfl
  have dl : db < w1.heap.size := (obj_cells D1.out.obj).2.2
  have LK := mapS_look ((D1.out.later (Bl.drew (Bl.alloc (Bl.refl w1) (.cells #[.int .i64 0, .int .i64 0, .int .i64 0, .int .i64 0, .slice none 0 0] 46)))).map) AT.out
  have LK0 := mapS_look (D1.out.map.drew) AT.out
  unfold vN at LK LK0
  dsimp only at LK LK0
  have L2 : Hid (Bl w1 (w1.alloc (.cells #[.int .i64 sid, .int .i64 vkd, .int .i64 vfr, .int .i64 vtt, .slice vkp vkn vkc] 46)).drew) := Lib.hid (Bl.drew (Bl.alloc (Bl.refl _) _))
  have N2 : Hid ((w1.alloc (.cells #[.int .i64 sid, .int .i64 vkd, .int .i64 vfr, .int .i64 vtt, .slice vkp vkn vkc] 46)).drew.heap[w1.heap.size]? = some (.cells #[.int .i64 sid, .int .i64 vkd, .int .i64 vfr, .int .i64 vtt, .slice vkp vkn vkc] 46 (0, 0))) := Lib.hid (show (w1.alloc (.cells #[.int .i64 sid, .int .i64 vkd, .int .i64 vfr, .int .i64 vtt, .slice vkp vkn vkc] 46)).heap[w1.heap.size]? = _ from heap_new rfl _ _)
  go_region
  all_goals
    clear s0 s1 s2 s3 s4 s5 sl d2 dl LK LK0
    generalize (w1.alloc (.cells #[.int .i64 sid, .int .i64 vkd, .int .i64 vfr, .int .i64 vtt, .slice vkp vkn vkc] 46)).drew = w2 at L2 N2 ⊢
    obtain ⟨nb, hnb⟩ : ∃ g, g = w1.heap.size := ⟨_, rfl⟩
    rw [← hnb] at N2 ⊢
    have NB : Hid (base ≤ nb) := Lib.hid (by have := S0.out; omega)
    clear hnb
    have SB2 := Lib.hid (heap_later SB.out L2.out)
    have D2 := Lib.hid (D1.out.later L2.out)
    have B2 : Hid (Below base w w2) := Lib.hid (B1.out.trans (L2.out.mono (by have := S0.out; omega)))
    clear SB D1 B1 L2 S0
    have s0 := (obj_cells SB2.out).1 0 _ rfl; have s1 := (obj_cells SB2.out).1 1 _ rfl; have s2 := (obj_cells SB2.out).1 2 _ rfl; have s3 := (obj_cells SB2.out).1 3 _ rfl; have s4 := (obj_cells SB2.out).1 4 _ rfl; have s5 := (obj_cells SB2.out).1 5 _ rfl
    have sl : sb < w2.heap.size := (obj_cells SB2.out).2.2
    have d1 := (obj_cells D2.out.obj).1 1 _ rfl; have d2 := (obj_cells D2.out.obj).1 2 _ rfl
    have dl : db < w2.heap.size := (obj_cells D2.out.obj).2.2
    have n0 := (obj_cells N2.out).1 0 _ rfl; have n1 := (obj_cells N2.out).1 1 _ rfl; have n2 := (obj_cells N2.out).1 2 _ rfl; have n3 := (obj_cells N2.out).1 3 _ rfl; have n4 := (obj_cells N2.out).1 4 _ rfl
    have nl : nb < w2.heap.size := (obj_cells N2.out).2.2
    have nf := (obj_cells N2.out).2.1
    have G3 : Hid (w2.grownBy (w2.setCell ⟨nb, 4, none⟩ (.slice kp kn kc)) (some nb)) := Lib.hid (set_grown w2 nb 4 _)
    have N3 : Hid ((w2.setCell ⟨nb, 4, none⟩ (.slice kp kn kc)).heap[nb]? = some (.cells #[.int .i64 sid, .int .i64 vkd, .int .i64 vfr, .int .i64 vtt, .slice kp kn kc] 46 (0, 0))) := Lib.hid (by rw [heap_setCell_at N2.out _]; rfl)
    have D3 : Hid (DrS (w2.setCell ⟨nb, 4, none⟩ (.slice kp kn kc)) base db b root nx l) := Lib.hid (D2.out.box N2.out _)
    have B3 : Hid (Below base w (w2.setCell ⟨nb, 4, none⟩ (.slice kp kn kc))) := Lib.hid (B2.out.trans (below_grown G3.out NB.out (Nat.le_trans NB.out (Nat.le_of_lt nl))))
    have SB3 : Hid ((w2.setCell ⟨nb, 4, none⟩ (.slice kp kn kc)).heap[sb]? = some (.cells #[.int .i64 2, .int .i64 sid, .int .i64 snd, .int .i64 sfr, .int .i64 sto, .slice kp kn kc] 42 (0, 0))) := Lib.hid ((G3.out.block sb sl (fun e => type_ne SB2.out N2.out (by decide) (Option.some.inj e))).trans SB2.out)
    go_upto_region 15 with fail
    clear s0 s1 s2 s3 s4 s5 sl d1 d2 dl n0 n1 n2 n3 n4 nl nf SB2 D2 B2 N2 G3
    generalize w2.setCell ⟨nb, 4, none⟩ (.slice kp kn kc) = w4 at N3 D3 B3 SB3 ⊢
    have N4 := N3; have D4 := D3; have B4 := B3; have SB4 := SB3
    clear N3 D3 B3 SB3
    have s1 := (obj_cells SB4.out).1 1 _ rfl
    have sl : sb < w4.heap.size := (obj_cells SB4.out).2.2
    have d2 := (obj_cells D4.out.obj).1 2 _ rfl
    have dl : db < w4.heap.size := (obj_cells D4.out.obj).2.2
    have n0 := (obj_cells N4.out).1 0 _ rfl; have n1 := (obj_cells N4.out).1 1 _ rfl; have n2 := (obj_cells N4.out).1 2 _ rfl; have n3 := (obj_cells N4.out).1 3 _ rfl; have n4 := (obj_cells N4.out).1 4 _ rfl
    have nl : nb < w4.heap.size := (obj_cells N4.out).2.2
    obtain ⟨ob, hU, hM⟩ := mapS_old (D4.out.map.drew) ⟨sid, vkd, vfr, vtt, kp, kn, kc⟩ ⟨sid, vkd, vfr, vtt, vkp, vkn, vkc⟩ rfl JJ.out AT.out
    unfold vN at hU
    dsimp only at hU
    have D5 := Lib.hid ((D4.out.later (Bl.drew (Bl.refl w4))).put hM)
    have B5 : Hid (Below base w (setB w4.drew b ob)) := Lib.hid ((B4.out.trans ((Bl.drew (Bl.refl w4)).mono (Nat.le_trans NB.out (Nat.le_of_lt nl)))).trans (below_grown (setB_grown _ b ob) D4.out.newB (Nat.le_trans NB.out (Nat.le_of_lt nl))))
    clear hM
    go_region
    all_goals
      go_wp2_with fail
      go_ret
      exact ⟨B5.out, .inr ⟨F.out, rfl, _, D5.out, E2.out⟩⟩

set_option maxRecDepth 100000 in
set_option maxHeartbeats 4000000 in
theorem tk_span (w0 w : World) (base db b : Nat) (root nx : Int) (l : List Nv) (ns : List Nd) (s : St) (kp : Option Addr) (kc : Nat) (h : DrS w base db b root nx l) (hE : DrN w0 l ns) (hm : stepMay s = true) (hK : lyI.Row w0 kp s.kids) (h0 : base ≤ w.heap.size) (hk : s.kd = 3) {j : Nat} {v : Nv} (hj : l[j]? = some v) (hv : v.id = s.id) (hat : atK s.id (l.map kvN) 0 = some (j, vN v)) : Calls Try.prog 22 #[.pointer (some ⟨db, 0, none⟩), stV s kp kc] w (TakeP w0 base db b root nx ns s w) := by
  have F := Lib.hid (fits_yesX hE hm (by rw [hk]; decide) (List.mem_of_getElem? hj) hv)
  obtain ⟨hid0, hid1⟩ := may_id hm
  obtain ⟨skd, sid, snd, sfr, sto, kids⟩ := s
  dsimp only at hk hv hK hat hid0 hid1
  obtain ⟨vid, vkd, vfr, vtt, vkp, vkn, vkc⟩ := v
  dsimp only at hv
  have hv2 := hv.symm
  subst hv2
  subst hk
  have E2 : Hid (DrN w0 (l.set j ⟨sid, vkd, sfr, sto, vkp, vkn, vkc⟩) (ns.map (fun x => if x.id = sid then ⟨x.id, x.kd, sfr, sto, x.kids⟩ else x))) := Lib.hid (by
    have := hE.turn hj (fun x => ⟨x.id, x.kd, sfr, sto, x.kids⟩) ⟨sid, vkd, sfr, sto, vkp, vkn, vkc⟩ rfl (fun _ => rfl) (fun m hp => ⟨hp.1, hp.2.1, rfl, rfl, hp.2.2.2.2.1, hp.2.2.2.2.2⟩)
    exact this)
  unfold stV
  dsimp only
  generalize kids.length = kn at *
  have SB : Hid ((w.alloc (.cells #[.int .i64 3, .int .i64 sid, .int .i64 snd, .int .i64 sfr, .int .i64 sto, .slice kp kn kc] 42)).heap[w.heap.size]? = some (.cells #[.int .i64 3, .int .i64 sid, .int .i64 snd, .int .i64 sfr, .int .i64 sto, .slice kp kn kc] 42 (0, 0))) := Lib.hid (heap_new rfl _ _)
  have B1 : Hid (Below base w (w.alloc (.cells #[.int .i64 3, .int .i64 sid, .int .i64 snd, .int .i64 sfr, .int .i64 sto, .slice kp kn kc] 42))) := Lib.hid (below_box h0 _)
  have D1 : Hid (DrS (w.alloc (.cells #[.int .i64 3, .int .i64 sid, .int .i64 snd, .int .i64 sfr, .int .i64 sto, .slice kp kn kc] 42)) base db b root nx l) := Lib.hid (h.later (Bl.alloc (Bl.refl _) _))
  have S0 : Hid (base ≤ w.heap.size ∧ w.heap.size ≤ (w.alloc (.cells #[.int .i64 3, .int .i64 sid, .int .i64 snd, .int .i64 sfr, .int .i64 sto, .slice kp kn kc] 42)).heap.size) := Lib.hid ⟨h0, by simp⟩
  have AT := Lib.hid hat; have JJ := Lib.hid hj
  clear h hE hm hK h0 hat hj
  go_enter Try.func22, Try.ntmps22
  go_upto_region 1 with fail
  generalize (w.alloc (.cells #[.int .i64 3, .int .i64 sid, .int .i64 snd, .int .i64 sfr, .int .i64 sto, .slice kp kn kc] 42)) = w1 at SB B1 D1 S0 ⊢
  obtain ⟨sb, hsb⟩ : ∃ g, g = w.heap.size := ⟨_, rfl⟩
  rw [← hsb] at SB ⊢
  clear hsb
  have s0 := (obj_cells SB.out).1 0 _ rfl; have s1 := (obj_cells SB.out).1 1 _ rfl; have s2 := (obj_cells SB.out).1 2 _ rfl; have s3 := (obj_cells SB.out).1 3 _ rfl; have s4 := (obj_cells SB.out).1 4 _ rfl; have s5 := (obj_cells SB.out).1 5 _ rfl
  have sl : sb < w1.heap.size := (obj_cells SB.out).2.2
  have d2 := (obj_cells D1.out.obj).1 2 _ rfl
  have dl : db < w1.heap.size := (obj_cells D1.out.obj).2.2
  have LK := mapS_look ((D1.out.later (Bl.drew (Bl.alloc (Bl.refl w1) (.cells #[.int .i64 0, .int .i64 0, .int .i64 0, .int .i64 0, .slice none 0 0] 46)))).map) AT.out
  have LK0 := mapS_look (D1.out.map.drew) AT.out
  unfold vN at LK LK0
  dsimp only at LK LK0
  have L2 : Hid (Bl w1 (w1.alloc (.cells #[.int .i64 sid, .int .i64 vkd, .int .i64 vfr, .int .i64 vtt, .slice vkp vkn vkc] 46)).drew) := Lib.hid (Bl.drew (Bl.alloc (Bl.refl _) _))
  have N2 : Hid ((w1.alloc (.cells #[.int .i64 sid, .int .i64 vkd, .int .i64 vfr, .int .i64 vtt, .slice vkp vkn vkc] 46)).drew.heap[w1.heap.size]? = some (.cells #[.int .i64 sid, .int .i64 vkd, .int .i64 vfr, .int .i64 vtt, .slice vkp vkn vkc] 46 (0, 0))) := Lib.hid (show (w1.alloc (.cells #[.int .i64 sid, .int .i64 vkd, .int .i64 vfr, .int .i64 vtt, .slice vkp vkn vkc] 46)).heap[w1.heap.size]? = _ from heap_new rfl _ _)
  go_region
  all_goals
    clear s0 s1 s2 s3 s4 s5 sl d2 dl LK LK0
    generalize (w1.alloc (.cells #[.int .i64 sid, .int .i64 vkd, .int .i64 vfr, .int .i64 vtt, .slice vkp vkn vkc] 46)).drew = w2 at L2 N2 ⊢
    obtain ⟨nb, hnb⟩ : ∃ g, g = w1.heap.size := ⟨_, rfl⟩
    rw [← hnb] at N2 ⊢
    have NB : Hid (base ≤ nb) := Lib.hid (by have := S0.out; omega)
    clear hnb
    have SB2 := Lib.hid (heap_later SB.out L2.out)
    have D2 := Lib.hid (D1.out.later L2.out)
    have B2 : Hid (Below base w w2) := Lib.hid (B1.out.trans (L2.out.mono (by have := S0.out; omega)))
    clear SB D1 B1 L2 S0
    have s0 := (obj_cells SB2.out).1 0 _ rfl; have s1 := (obj_cells SB2.out).1 1 _ rfl; have s2 := (obj_cells SB2.out).1 2 _ rfl; have s3 := (obj_cells SB2.out).1 3 _ rfl; have s4 := (obj_cells SB2.out).1 4 _ rfl; have s5 := (obj_cells SB2.out).1 5 _ rfl
    have sl : sb < w2.heap.size := (obj_cells SB2.out).2.2
    have d1 := (obj_cells D2.out.obj).1 1 _ rfl; have d2 := (obj_cells D2.out.obj).1 2 _ rfl
    have dl : db < w2.heap.size := (obj_cells D2.out.obj).2.2
    have n0 := (obj_cells N2.out).1 0 _ rfl; have n1 := (obj_cells N2.out).1 1 _ rfl; have n2 := (obj_cells N2.out).1 2 _ rfl; have n3 := (obj_cells N2.out).1 3 _ rfl; have n4 := (obj_cells N2.out).1 4 _ rfl
    have nl : nb < w2.heap.size := (obj_cells N2.out).2.2
    have nf := (obj_cells N2.out).2.1
    have G3 : Hid (w2.grownBy (((w2.setCell ⟨nb, 2, none⟩ (.int .i64 sfr)).setCell ⟨nb, 3, none⟩ (.int .i64 sto)).drew) (some nb)) := Lib.hid (grown_trans (setAll_one w2 nb 2 [.int .i64 sfr, .int .i64 sto]) (grown_of_below (below_drew (Below.refl _ _)) none) (fun g hg => by cases hg))
    have N3 : Hid ((((w2.setCell ⟨nb, 2, none⟩ (.int .i64 sfr)).setCell ⟨nb, 3, none⟩ (.int .i64 sto)).drew).heap[nb]? = some (.cells #[.int .i64 sid, .int .i64 vkd, .int .i64 sfr, .int .i64 sto, .slice vkp vkn vkc] 46 (0, 0))) := Lib.hid (show ((w2.setCell ⟨nb, 2, none⟩ (.int .i64 sfr)).setCell ⟨nb, 3, none⟩ (.int .i64 sto)).heap[nb]? = _ by rw [heap_setCell_at (heap_setCell_at N2.out _) _]; rfl)
    have D3 : Hid (DrS (((w2.setCell ⟨nb, 2, none⟩ (.int .i64 sfr)).setCell ⟨nb, 3, none⟩ (.int .i64 sto)).drew) base db b root nx l) := Lib.hid (((D2.out.box N2.out _).box (heap_setCell_at N2.out _) _).later (Bl.drew (Bl.refl _)))
    have B3 : Hid (Below base w (((w2.setCell ⟨nb, 2, none⟩ (.int .i64 sfr)).setCell ⟨nb, 3, none⟩ (.int .i64 sto)).drew)) := Lib.hid (B2.out.trans (below_grown G3.out NB.out (Nat.le_trans NB.out (Nat.le_of_lt nl))))
    have SB3 : Hid ((((w2.setCell ⟨nb, 2, none⟩ (.int .i64 sfr)).setCell ⟨nb, 3, none⟩ (.int .i64 sto)).drew).heap[sb]? = some (.cells #[.int .i64 3, .int .i64 sid, .int .i64 snd, .int .i64 sfr, .int .i64 sto, .slice kp kn kc] 42 (0, 0))) := Lib.hid ((G3.out.block sb sl (fun e => type_ne SB2.out N2.out (by decide) (Option.some.inj e))).trans SB2.out)
    go_upto_region 14 with fail
    go_region
    all_goals
      go_upto_region 15 with fail
      clear s0 s1 s2 s3 s4 s5 sl d1 d2 dl n0 n1 n2 n3 n4 nl nf SB2 D2 B2 N2 G3
      generalize ((w2.setCell ⟨nb, 2, none⟩ (.int .i64 sfr)).setCell ⟨nb, 3, none⟩ (.int .i64 sto)).drew = w4 at N3 D3 B3 SB3 ⊢
      have N4 := N3; have D4 := D3; have B4 := B3; have SB4 := SB3
      clear N3 D3 B3 SB3
      have s1 := (obj_cells SB4.out).1 1 _ rfl
      have sl : sb < w4.heap.size := (obj_cells SB4.out).2.2
      have d2 := (obj_cells D4.out.obj).1 2 _ rfl
      have dl : db < w4.heap.size := (obj_cells D4.out.obj).2.2
      have n0 := (obj_cells N4.out).1 0 _ rfl; have n1 := (obj_cells N4.out).1 1 _ rfl; have n2 := (obj_cells N4.out).1 2 _ rfl; have n3 := (obj_cells N4.out).1 3 _ rfl; have n4 := (obj_cells N4.out).1 4 _ rfl
      have nl : nb < w4.heap.size := (obj_cells N4.out).2.2
      obtain ⟨ob, hU, hM⟩ := mapS_old (D4.out.map.drew) ⟨sid, vkd, sfr, sto, vkp, vkn, vkc⟩ ⟨sid, vkd, vfr, vtt, vkp, vkn, vkc⟩ rfl JJ.out AT.out
      unfold vN at hU
      dsimp only at hU
      have D5 := Lib.hid ((D4.out.later (Bl.drew (Bl.refl w4))).put hM)
      have B5 : Hid (Below base w (setB w4.drew b ob)) := Lib.hid ((B4.out.trans ((Bl.drew (Bl.refl w4)).mono (Nat.le_trans NB.out (Nat.le_of_lt nl)))).trans (below_grown (setB_grown _ b ob) D4.out.newB (Nat.le_trans NB.out (Nat.le_of_lt nl))))
      clear hM
      go_region
      all_goals
        go_wp2_with fail
        go_ret
        exact ⟨B5.out, .inr ⟨F.out, rfl, _, D5.out, E2.out⟩⟩

/-- take, at every step that may be. -/
theorem tk_any (w0 w : World) (base db b : Nat) (root nx : Int) (l : List Nv) (ns : List Nd) (s : St) (kp : Option Addr) (kc : Nat) (h : DrS w base db b root nx l) (hE : DrN w0 l ns) (hm : stepMay s = true) (hK : lyI.Row w0 kp s.kids) (h0 : base ≤ w.heap.size) : Calls Try.prog 22 #[.pointer (some ⟨db, 0, none⟩), stV s kp kc] w (TakeP w0 base db b root nx ns s w) := by
  rcases at_cases s.id l 0 with ⟨j, v, h1, h2, h3⟩ | ⟨h1, h2⟩
  · rw [Nat.zero_add] at h3
    rcases may_kd hm with hk | hk | hk | hk
    · exact tk_drop w0 w base db b root nx l ns s kp kc h hE hm hK h0 hk h1 h2 h3
    · exact tk_no1 w0 w base db b root nx l ns s kp kc h hE hm hK h0 hk h1 h2 h3
    · exact tk_kids w0 w base db b root nx l ns s kp kc h hE hm hK h0 hk h1 h2 h3
    · exact tk_span w0 w base db b root nx l ns s kp kc h hE hm hK h0 hk h1 h2 h3
  · by_cases hk : s.kd = 1
    · exact tk_new w0 w base db b root nx l ns s kp kc h hE hm hK h0 hk h1 h2
    · exact tk_noX w0 w base db b root nx l ns s kp kc h hE hm hK h0 hk h1 h2

end Go.Proofs.Ytdhkjhdbaofdcaa
