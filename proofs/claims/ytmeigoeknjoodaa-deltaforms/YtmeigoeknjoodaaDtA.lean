/-
  Dt1, Dt2, in one text. Conditions: as each theorem's premises say.
-/
import Derived.Test.YtmeigoeknjoodaaMyB
import Derived.Test.YtmeigoeknjoodaaRw4
import Derived.Test.YtmeigoeknjoodaaDe2
namespace Go.Proofs.Ytmeigoeknjoodaa
open Go.RowKit

set_option maxRecDepth 100000 in
set_option maxHeartbeats 1000000 in
theorem isRoot_any (id kd fr tt : Int) (kp : Option Addr) (kn kc tb : Nat) (root : Int) (w : World) (h : w.cell? ⟨tb, 0, none⟩ = some (.int .i64 root)) : Calls Try.prog 41 #[.agg #[.int .i64 id, .int .i64 kd, .int .i64 fr, .int .i64 tt, .slice kp kn kc], .pointer (some ⟨tb, 0, none⟩)] w (RetBelow (.returned (.bool (id == root))) w) := by
  have h2 : ∀ o, (w.alloc o).cell? ⟨tb, 0, none⟩ = some (.int .i64 root) := fun o => (Bl.alloc (Bl.refl w) o).cell h
  go_enter Try.func41, Try.ntmps41
  go_wp2_with fail
  go_ret
  exact ⟨rfl, (Below.refl _ _).alloc (Nat.le_refl _) _⟩

set_option maxRecDepth 100000 in
set_option maxHeartbeats 2000000 in
theorem index_any (root : Int) (p : Option Addr) (ns : List Nd) (N cap tb : Nat) (hN : ns.length = N) (w : World) (R : NodesR w p ns) (h : w.cell? ⟨tb, 0, none⟩ = some (.int .i64 root)) (hl : N ≤ 140737488355328) :
    Calls Try.prog 40 #[.slice p N cap, .func (.func 41) #[] #[.pointer (some ⟨tb, 0, none⟩)]] w (RetBelow (.returned (.int .i64 (fdZ ns root))) w) := by
  have RR := Lib.hid R; have HN := Lib.hid hN; have H := Lib.hid h
  clear R hN h
  go_enter Try.func40, Try.ntmps40
  go_wp2_with fail
  go_loopw [8, 5] (fun v _ wr => ∃ j : Nat, j ≤ N ∧ v = .int .i64 j ∧ Hid (Bl w wr) ∧ Hid (fdI root (ns.drop j) j = fdI root ns 0)) (fun v _ _ => N - (intOf v).toNat)
  case atStart => exact ⟨0, by omega, rfl, Lib.hid (Bl.refl _), Lib.hid rfl⟩
  case round =>
    obtain ⟨j, hj, rfl, B, E⟩ := hrel
    by_cases hlt : j < N
    · obtain ⟨x, hx⟩ : ∃ x, ns[j]? = some x := ⟨_, List.getElem?_eq_getElem (by rw [HN.out]; exact hlt)⟩
      obtain ⟨b, o, kp, kc, rfl, hat, -⟩ := RR.out j x hx
      have n0 : wr.cell? ⟨b, o + j * 5, none⟩ = some (.int .i64 x.id) := B.out.cell (hat 0 _ rfl)
      have n1 : wr.cell? ⟨b, o + j * 5 + 1, none⟩ = some (.int .i64 x.kd) := B.out.cell (hat 1 _ rfl)
      have n2 : wr.cell? ⟨b, o + j * 5 + 2, none⟩ = some (.int .i64 x.fr) := B.out.cell (hat 2 _ rfl)
      have n3 : wr.cell? ⟨b, o + j * 5 + 3, none⟩ = some (.int .i64 (Nd.to x)) := B.out.cell (hat 3 _ rfl)
      have n4 : wr.cell? ⟨b, o + j * 5 + 4, none⟩ = some (.slice kp x.kids.length kc) := B.out.cell (hat 4 _ rfl)
      have CL := Lib.hid (isRoot_any x.id x.kd x.fr (Nd.to x) kp x.kids.length kc tb root wr (B.out.cell H.out))
      have hi0 : (0 : Int) ≤ (j : Int) := by omega
      have hi1 : (j : Int) < (N : Int) := by omega
      have DA := Lib.hid (drop_at hx)
      clear hat hx
      by_cases he : x.id = root
      · have q : (x.id == root) = true := by simpa using he
        rw [q] at CL
        have F : Hid (fdZ ns root = (j : Int)) := Lib.hid (by unfold fdZ; rw [← E.out, DA.out]; simp [fdI, he])
        clear he q
        go_wp2_with (go_at_call 41; refine CL.out.mono ?_; rintro e w1 ⟨rfl, hb1⟩; have B1 := Lib.hid (B.out.call hb1); clear hb1)
        go_ret
        exact ⟨retI (by rw [F.out]), B1.out⟩
      · have q : (x.id == root) = false := by simpa using he
        rw [q] at CL
        have E' : Hid (fdI root (ns.drop (j + 1)) (j + 1) = fdI root ns 0) := Lib.hid (by rw [← E.out, DA.out]; simp [fdI, he])
        clear he q
        go_wp2_with (go_at_call 41; refine CL.out.mono ?_; rintro e w1 ⟨rfl, hb1⟩; have B1 := Lib.hid (B.out.call hb1); clear hb1)
        go_roundw
        case rel => exact ⟨j + 1, by omega, by go_num, B1, E'⟩
        case measure => simp [intOf]; omega
    · have F : Hid (fdZ ns root = -1) := Lib.hid (by
        unfold fdZ
        rw [← E.out, List.drop_eq_nil_of_le (by rw [HN.out]; omega)]; rfl)
      go_wp2_with fail
      go_ret
      exact ⟨retI (by rw [F.out]), B.out⟩

theorem may_endless {ns : List Nd} {root next : Int} (h : getN ns root = none) : mayB ns root next (endN ns root) = false := by
  cases hb : mayB ns root next (endN ns root) with
  | false => rfl
  | true =>
    have := (mayC_is.1 hb).size0
    unfold endN at this
    rw [h] at this
    exact absurd this (by decide)

set_option maxRecDepth 100000 in
set_option maxHeartbeats 2000000 in
theorem dmay_any (root next : Int) (p : Option Addr) (ns : List Nd) (N cap : Nat) (hN : ns.length = N) (w : World) (R : NodesR w p ns) (hl : N ≤ 140737488355328) (hk : ∀ x ∈ ns, x.kids.length ≤ 140737488355328) :
    Calls Try.prog 17 #[trV root next p N cap] w (RetBelow (.returned (.bool (mayB ns root next (endN ns root)))) w) := by
  have RR := Lib.hid R; have HN := Lib.hid hN; have HKK := Lib.hid hk
  unfold trV
  have TB : Hid ((w.alloc (.cells #[.int .i64 root, .int .i64 next, .slice p N cap] 24)).heap[w.heap.size]? = some (.cells #[.int .i64 root, .int .i64 next, .slice p N cap] 24 (0, 0))) := Lib.hid (heap_new rfl _ _)
  have BT : Hid (Bl w (w.alloc (.cells #[.int .i64 root, .int .i64 next, .slice p N cap] 24))) := Lib.hid (Bl.alloc (Bl.refl _) _)
  clear R hN hk
  go_enter Try.func17, Try.ntmps17
  have IX := Lib.hid (index_any root p ns N cap w.heap.size HN.out _ (RR.out.below BT.out) ((obj_cells TB.out).1 0 _ rfl) hl)
  go_upto_region 2 with fail
  refine IX.out.mono ?_
  rintro e w1 ⟨rfl, hb1⟩
  have T1 := Lib.hid (heap_later TB.out hb1)
  have B1 := Lib.hid (BT.out.call hb1)
  clear hb1
  go_upto_region 2 with fail
  rcases fd_cases ns root with ⟨k, x, h1, h2, h3, h4⟩ | ⟨h1, h2⟩
  · rw [h1]
    have EN : Hid (endN ns root = Nd.to x) := Lib.hid (by unfold endN; rw [h4])
    obtain ⟨b, o, kp, kc, rfl, hat, -⟩ := RR.out k x h2
    have hkN : k < N := by rw [← HN.out]; exact (List.getElem?_eq_some_iff.1 h2).1
    have MY := Lib.hid (fun (X : Ext w1) => may_any root next (Nd.to x) _ ns N cap HN.out X.w (RR.out.below (B1.out.call X.below)) hl HKK.out)
    unfold trV at MY
    rw [mayP_is_B] at MY
    have a0 : ∀ X : Ext w1, X.w.cell? ⟨w.heap.size, 0, none⟩ = some (.int .i64 root) := fun X => X.cell ((obj_cells T1.out).1 0 _ rfl)
    have a1 : ∀ X : Ext w1, X.w.cell? ⟨w.heap.size, 1, none⟩ = some (.int .i64 next) := fun X => X.cell ((obj_cells T1.out).1 1 _ rfl)
    have a2 : ∀ X : Ext w1, X.w.cell? ⟨w.heap.size, 2, none⟩ = some (.slice (some ⟨b, o, none⟩) N cap) := fun X => X.cell ((obj_cells T1.out).1 2 _ rfl)
    have n3 : ∀ X : Ext w1, X.w.cell? ⟨b, o + k * 5 + 3, none⟩ = some (.int .i64 (Nd.to x)) := fun X => X.cell (B1.out.cell (hat 3 _ rfl))
    have hk0 : (0 : Int) ≤ (k : Int) := by omega
    have hk1 : (k : Int) < (N : Int) := by omega
    have hk2 : decide ((0 : Int) ≤ (k : Int)) = true := decide_eq_true (by omega)
    clear h1 h2 h3 h4 hat IX
    refine wp_region_ext (by kernel_rfl) (by kernel_rfl) ?_
    repeat (go_big_quiet_step (first | (go_at_call 42; exact Ext.calls (MY.out _)) | fail))
    refine wpQuiet_nil ?_
    rintro _ ⟨X, rfl⟩
    clear a0 a1 a2 n3
    go_wp2_with fail
    go_ret
    exact ⟨retB (by rw [EN.out]), B1.out.call X.below⟩
  · rw [h1]
    have F := Lib.hid (may_endless (next := next) h2)
    clear h1 h2 IX
    go_quiet (fail)
    go_wp2_with fail
    go_ret
    exact ⟨retB (by rw [F.out]), B1.out.call (dr_below _ _)⟩

theorem Rows.far {w w' : World} {base g : Nat} {rs : List (Value × List Sv × List St)} {c : Array Value} {ty : TypeId} (h : Rows w base rs) (hg : w.grownBy w' (some g)) (hc : w.heap[g]? = some (.cells c ty (0, 0))) (h1 : ty ≠ 43) (h2 : ty ≠ 3) : Rows w' base rs :=
  ⟨fun k r hr => by
    have h0 := h.own k r hr
    refine ⟨h0.row.kept hg (fun q hq e => ?_), h0.len, fun i x s hx hs => ?_⟩
    · obtain ⟨cur, hcur⟩ := h0.row.obj hq
      cases e
      exact type_ne hc hcur h1 rfl
    · obtain ⟨a, b, c', d, e, f⟩ := h0.fit i x s hx hs
      exact ⟨a, b, c', d, e, f.kept hg (fun q hq e0 => by
        obtain ⟨cur, hcur⟩ := f.obj hq
        cases e0
        exact type_ne hc hcur h2 rfl)⟩, h.apart⟩
/-- Four rows of steps, and the array that holds them. -/
structure SS (w : World) (base sb : Nat) (rs : List (Value × List Sv × List St)) : Prop where
  obj : w.heap[sb]? = some (.cells (rs.map (fun r => r.1)).toArray 51 (0, 0))
  new : base ≤ sb
  four : rs.length = 4
  rows : Rows w base rs
theorem SS.later {w W : World} {base sb : Nat} {rs : List (Value × List Sv × List St)} (h : SS w base sb rs) (hb : Bl w W) : SS W base sb rs := ⟨heap_later h.obj hb, h.new, h.four, h.rows.below hb⟩
/-- What is neither a row of steps nor their array stays. -/
def KeepB (w w' : World) : Prop := ∀ (k : Nat) (c : Array Value) (ty : TypeId), ty ≠ 43 → ty ≠ 51 → w.heap[k]? = some (.cells c ty (0, 0)) → w'.heap[k]? = some (.cells c ty (0, 0))
theorem KeepB.trans {a b c : World} (h : KeepB a b) (h' : KeepB b c) : KeepB a c := fun k x ty h1 h2 hx => h' k x ty h1 h2 (h k x ty h1 h2 hx)
theorem KeepB.later {a b c : World} (h : KeepB a b) (h' : Bl b c) : KeepB a c := fun k x ty h1 h2 hx => heap_later (h k x ty h1 h2 hx) h'
theorem KeepB.refl (a : World) : KeepB a a := fun _ _ _ _ _ h => h
theorem KeepB.own {w w' : World} {base : Nat} {v : Value} {l : List Int} (h : lyI.Own w base v l) (hk : KeepB w w') : lyI.Own w' base v l := by
  refine ⟨h.1, ?_⟩
  rcases h.2 with h | ⟨g, cap, cur, hv, h1, h2, h3⟩
  · exact .inl h
  · exact .inr ⟨g, cap, cur, hv, h1, hk g cur 3 (by decide) (by decide) h2, h3⟩

def AddP (base sb : Nat) (rs : List (Value × List Sv × List St)) (k : Nat) (vs : List Sv) (ss : List St) (x : Sv) (s : St) (w : World) (e : Ending) (w' : World) : Prop :=
  e = .returned (.tuple #[]) ∧ Below base w w' ∧ KeepB w w' ∧ ∃ v, SS w' base sb (rs.set k (v, vs ++ [x], ss ++ [s]))

theorem add_put {w w6 : World} {base sb k M c6 c7 kn kc : Nat} {p6 p7 kp : Option Addr} {rs : List (Value × List Sv × List St)} {vs : List Sv} {ss : List St} {id nd fr tt : Int} {kids : List Int} {cs1 : Array Value} {t1 : TypeId} {o2 : Obj}
    (S : SS w base sb rs) (hk : rs[k]? = some (.slice p6 M c6, vs, ss)) (hM : vs.length = M) (KO : lyI.Own w base (.slice kp kn kc) kids)
    (g6 : (World.drew ((w.alloc (.cells cs1 t1)).alloc o2)).grownBy w6 (Value.slice p6 M c6).ownBlock) (o6 : w6.ownsRow base 43 6 (.slice p7 (M + 1) c7) (M + 1) (lyS.all vs ++ Sv.cells ⟨k, id, nd, fr, tt, kp, kn, kc⟩))
    (b6 : (Value.slice p7 (M + 1) c7).ownBlock = (Value.slice p6 M c6).ownBlock ∨ (Value.slice p7 (M + 1) c7).ownBlock = some (World.drew ((w.alloc (.cells cs1 t1)).alloc o2)).heap.size) :
    w6.heap[sb]? = some (.cells (rs.map (fun r => r.1)).toArray 51 (0, 0)) ∧ w6.heap[w.heap.size]? = some (.cells cs1 t1 (0, 0)) ∧ AddP base sb rs k vs ss ⟨k, id, nd, fr, tt, kp, kn, kc⟩ ⟨k, id, nd, fr, tt, kids⟩ w (.returned (.tuple #[])) (w6.setCell ⟨sb, k, none⟩ (.slice p7 (M + 1) c7)) := by
  have hB : Bl w (World.drew ((w.alloc (.cells cs1 t1)).alloc o2)) := Bl.drew (Bl.alloc (Bl.alloc (Bl.refl _) (.cells cs1 t1)) o2)
  have S1 := S.later hB
  have row := (S1.rows.own k _ hk).row
  have ob6 := box_stays row g6 S1.obj (by decide)
  have hg := set_grown w6 sb k (.slice p7 (M + 1) c7)
  have R6 : Rows w6 base (rs.set k (.slice p7 (M + 1) c7, vs ++ [⟨k, id, nd, fr, tt, kp, kn, kc⟩], ss ++ [⟨k, id, nd, fr, tt, kids⟩])) := by
    refine S1.rows.push hk ?_ g6 b6 rfl ?_
    · unfold Ly.Own
      rw [List.length_append, hM, List.length_singleton, all_app, all_one]
      exact o6
    · intro i x z hx hz
      cases i with
      | zero =>
        cases hx; cases hz
        exact ⟨rfl, rfl, rfl, rfl, rfl, KO.below hB⟩
      | succ i => simp at hx
  have hbs : base ≤ w.heap.size := Nat.le_trans S.new (Nat.le_of_lt (Array.getElem?_eq_some_iff.1 S.obj).1)
  have bx : w6.heap[w.heap.size]? = some (.cells cs1 t1 (0, 0)) := by
    have h1 : (World.drew ((w.alloc (.cells cs1 t1)).alloc o2)).heap[w.heap.size]? = some (.cells cs1 t1 (0, 0)) := heap_old (heap_new rfl _ _) _
    exact (g6.block _ (Array.getElem?_eq_some_iff.1 h1).1 (fun e => by
      have := ((S.rows.own k _ hk).row.lt e.symm).2
      omega)).trans h1
  refine ⟨ob6, bx, rfl, ?_, ?_, _, ?_, S.new, by rw [List.length_set]; exact S.four, R6.far hg ob6 (by decide) (by decide)⟩
  · have h1 : Below base w w6 := Below.trans (Below.mono hB hbs) (below_grownN g6 (fun g e => (row.lt e).1) (Nat.le_trans hbs hB.size))
    exact below_set h1 S.new _
  · intro q c ty h1 h2 hq
    have hq1 := heap_later hq hB
    have hq6 := box_stays row g6 hq1 h1
    refine (hg.block q (Array.getElem?_eq_some_iff.1 hq6).1 (fun e => ?_)).trans hq6
    cases e
    exact type_ne hq6 ob6 h2 rfl
  · rw [heap_setCell_at ob6, List.map_set]
    simp

set_option maxRecDepth 100000 in
set_option maxHeartbeats 4000000 in
theorem add_any (w : World) (base sb k M c6 kn kc : Nat) (p6 kp : Option Addr) (rs : List (Value × List Sv × List St)) (vs : List Sv) (ss : List St) (id nd fr tt : Int) (kids : List Int)
    (S : SS w base sb rs) (hk : rs[k]? = some (.slice p6 M c6, vs, ss)) (hM : vs.length = M) (hMl : M ≤ 100000) (KO : lyI.Own w base (.slice kp kn kc) kids) :
    Calls Try.prog 43 #[.pointer (some ⟨sb, 0, none⟩), .agg #[.int .i64 k, .int .i64 id, .int .i64 nd, .int .i64 fr, .int .i64 tt, .slice kp kn kc]] w (AddP base sb rs k vs ss ⟨k, id, nd, fr, tt, kp, kn, kc⟩ ⟨k, id, nd, fr, tt, kids⟩ w) := by
  obtain ⟨i8, hi8, hz08, hz18, hz28⟩ := info_parts info68
  have hk4 : k < 4 := by rw [← S.four]; exact (List.getElem?_eq_some_iff.1 hk).1
  have hk0 : (0 : Int) ≤ (k : Int) := by omega
  have hk1 : (k : Int) < 4 := by omega
  have hbs : Hid (base ≤ w.heap.size) := Lib.hid (Nat.le_trans S.new (Nat.le_of_lt (Array.getElem?_eq_some_iff.1 S.obj).1))
  have PUT := Lib.hid (fun (w6 : World) (c7 : Nat) (p7 : Option Addr) (cs1 : Array Value) (t1 : TypeId) (o2 : Obj) g6 o6 b6 => add_put (w6 := w6) (c7 := c7) (p7 := p7) (cs1 := cs1) (t1 := t1) (o2 := o2) (id := id) (nd := nd) (fr := fr) (tt := tt) S hk hM KO g6 o6 b6)
  have sc0 : w.cell? ⟨sb, k, none⟩ = some (.slice p6 M c6) := (obj_cells S.obj).1 k _ (by simp [hk])
  have OWS : Hid (∀ W', Below w.heap.size w W' → W'.ownsRow base 43 6 (.slice p6 M c6) M (lyS.all vs)) := Lib.hid (fun W' hW => by
    have := ((S.rows.own k _ hk).row).below hW
    unfold Ly.Own at this
    dsimp only at this
    rwa [hM] at this)
  have sc1 : ∀ o, (w.alloc o).cell? ⟨sb, k, none⟩ = some (.slice p6 M c6) := fun o => (Bl.alloc (Bl.refl w) o).cell sc0
  have sc2 : ∀ o o', ((w.alloc o).alloc o').cell? ⟨sb, k, none⟩ = some (.slice p6 M c6) := fun o o' => (Bl.alloc (Bl.alloc (Bl.refl w) o) o').cell sc0
  have HKG : Hid ((rs.map (fun r => r.1)).toArray[k]? = some (.slice p6 M c6)) := Lib.hid (by simp [hk])
  clear S hk hM KO sc0 hk4
  go_enter Try.func43, Try.ntmps43
  go_wp2_with fail
  go_region_law (refine step_append_all _ (by rfl) (.tmp 12) (.tmp 14) 26 (by rfl) base 43 i8 _ 6 64 Try.underlying26 hi8 hz08 hz18 hz28 rfl (by decide) (.slice p6 M c6) M (lyS.all vs) (by rfl) (OWS.out _ (below_drew (below2 (Below.refl _ _) (Nat.le_refl _) _ _))) (some ⟨w.heap.size + 1, 0, none⟩) 1 1 (Sv.cells ⟨k, id, nd, fr, tt, kp, kn, kc⟩) (by rfl) rfl (fun e => by cases e) (fun ad hp => by cases hp; exact six_new (by simp) ⟨k, id, nd, fr, tt, kp, kn, kc⟩) (lyS.one ⟨k, id, nd, fr, tt, kp, kn, kc⟩) (by unfold maxLen; omega) (by omega) (Nat.le_trans hbs.out (by simp; omega)) (M + 1) rfl ?_
                 intro p7 c7 w6 hown6 hgrow6 hblk6
                 have P6 := PUT.out w6 c7 p7 _ _ _ hgrow6 hown6 hblk6
                 have y7 := (obj_cells P6.1).2.1 k
                 have FIN := Lib.hid P6.2.2
                 have x0 := (obj_cells P6.2.1).1 0 _ rfl
                 have y8 := (obj_cells P6.1).1 k (.slice p6 M c6) HKG.out
                 clear P6 hown6 hgrow6 hblk6)
  all_goals
    go_wp2_with fail
    (try simp only [Exit.inBlock, Exit.then])
    refine bodyPost_ret (results_none rfl _ _ _) rfl ?_
    exact FIN.out

end Go.Proofs.Ytmeigoeknjoodaa
