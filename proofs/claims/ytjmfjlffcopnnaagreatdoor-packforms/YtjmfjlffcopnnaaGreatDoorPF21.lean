/-
  PkB, PgN, PkC, PkD, Ta1, Ta2, Ta3, Ta4, Ta5, Ta6, TaE, in one text. Conditions: as each theorem's premises say.
-/
import Derived.Test.YtjmfjlffcopnnaaGreatDoorPF20
namespace Go.Proofs.YtjmfjlffcopnnaaGreatDoor
open Go.RowKit
open Go.Proofs.YtjmfjlffcopnnaaGreatDoor.K (C RowC PieceAt MayP)

theorem msg_poll {m : Ms} (hk : m.kd = 0) : msgC m [] = [80] ++ (numC m.cl [] ++ (numC m.rv [] ++ (numC m.sq [] ++ listC compC m.ed []))) := by
  unfold msgC
  rw [if_pos hk, num_app.nil m.cl, num_app.nil m.rv, num_app.nil m.sq]
  rfl
theorem msg_changes {m : Ms} (hk : m.kd = 1) : msgC m [] = [67] ++ (numC m.cl [] ++ (numC m.rv [] ++ (numC (m.es.length : Int) [] ++ rowC entC m.es []))) := by
  unfold msgC
  rw [if_neg (by rw [hk]; decide), if_pos hk, num_app.nil m.cl, num_app.nil m.rv, list_split]
  rfl
theorem msg_snap {m : Ms} (hk : m.kd = 2) : msgC m [] = [83] ++ (numC m.cl [] ++ (numC m.rv [] ++ (numC m.sq [] ++ (numC m.fr [] ++ (numC m.ls [] ++ (numC (if m.rf then 1 else 0) [] ++ (strC (bytesOf m.tx) [] ++ treeC m.ro m.nx m.ns []))))))) := by
  unfold msgC
  rw [if_neg (by rw [hk]; decide), if_neg (by rw [hk]; decide), num_app.nil m.cl, num_app.nil m.rv, num_app.nil m.sq, num_app.nil m.fr, num_app.nil m.ls, num_app.nil (if m.rf then 1 else 0), str_app.nil]
  rfl

end Go.Proofs.YtjmfjlffcopnnaaGreatDoor

namespace Go.Proofs.YtjmfjlffcopnnaaGreatDoor
open Go.Proofs.YtjmfjlffcopnnaaGreatDoor.K (C MayP)

theorem sm_small {x : Int} (h0 : 0 ≤ x) (h1 : x ≤ 16777216) : Sm x := ⟨h0, by omega⟩
theorem may_nodesS {ns : List Nd} {root next size : Int} (h : mayB ns root next size = true) : ns.length ≤ 2048 ∧ Sm root ∧ Sm next ∧ ∀ x ∈ ns, NdS x ∧ x.kids.length ≤ 2048 := by
  have Cm := mayC_is.1 h
  have hid : ∀ x ∈ ns, Sm x.id := fun x hx => by
    have hn := nodeOk_is.1 (Cm.node x hx)
    have := Cm.next1
    exact sm_small hn.1.1 (by omega)
  obtain ⟨y, hy, _, hyr, _⟩ := root_node Cm
  refine ⟨Cm.few, by rw [← hyr]; exact hid y hy, sm_small Cm.next0 Cm.next1, fun x hx => ?_⟩
  have hn := nodeOk_is.1 (Cm.node x hx)
  have hs := Cm.size1
  have hk : ∀ c ∈ x.kids, (allKids ns).count c = 1 ∧ Sm c := fun c hc => by
    obtain ⟨h1, _, z, hz, hzc⟩ := kids_once Cm hx hc
    exact ⟨h1, by rw [← hzc]; exact hid z hz⟩
  have hnd : x.kids.Nodup := List.nodup_iff_count.2 fun c => by
    by_cases hc : c ∈ x.kids
    · rw [← (hk c hc).1]
      exact count_kids hx c
    · rw [List.count_eq_zero_of_not_mem hc]
      omega
  have hkl : x.kids.length ≤ 2048 := by
    have := pigeon x.kids (ns.map Nd.id) hnd fun c hc => by
      obtain ⟨_, _, z, hz, hzc⟩ := kids_once Cm hx hc
      exact List.mem_map.2 ⟨z, hz, hzc⟩
    rw [List.length_map] at this
    exact Nat.le_trans this Cm.few
  exact ⟨⟨hid x hx, sm_small hn.2.1 (by omega), sm_small hn.2.2.2.1 (by omega), sm_small (by omega) (by omega), fun c hc => (hk c hc).2, by omega⟩, hkl⟩
theorem idB_sm {i : Int} (h : idB i = true) : Sm i := by
  unfold idB at h
  simp only [Bool.and_eq_true, decide_eq_true_eq] at h
  exact sm_small h.1 (by omega)
theorem stpS {kd id nd fr tt : Int} {ks : List Int} (a : Sm kd) (b : Sm id) (c : Sm nd) (d : Sm fr) (e : Sm tt) (f : ∀ k ∈ ks, Sm k) (g : ks.length ≤ 2048) : StS ⟨kd, id, nd, fr, tt, ks⟩ ∧ ks.length ≤ 2048 := ⟨⟨a, b, c, d, e, f, Nat.lt_of_le_of_lt g (by decide)⟩, g⟩
theorem may_stepS {s : St} (h : stepMay s = true) : StS s ∧ s.kids.length ≤ 2048 := by
  unfold stepMay at h
  simp only [Bool.and_eq_true, Bool.or_eq_true, beq_iff_eq, decide_eq_true_eq, List.isEmpty_iff, List.all_eq_true] at h
  obtain ⟨hi, h⟩ := h
  have z : Sm 0 := sm_small (Int.le_refl _) (by decide)
  have hid := idB_sm hi
  obtain ⟨kd, id, nd, fr, tt, ks⟩ := s
  dsimp only at *
  rcases h with ((⟨⟨⟨⟨rfl, rfl⟩, rfl⟩, rfl⟩, rfl⟩ | ⟨⟨⟨⟨⟨rfl, h1⟩, h2⟩, rfl⟩, rfl⟩, rfl⟩) | ⟨⟨⟨⟨⟨rfl, rfl⟩, rfl⟩, rfl⟩, h5⟩, h6⟩) | ⟨⟨⟨⟨⟨rfl, rfl⟩, h3⟩, h4⟩, h5⟩, rfl⟩
  · exact stpS z hid z z z no_kids (by simp)
  · exact stpS (sm_small (by decide) (by decide)) hid (sm_small h1 (by omega)) z z no_kids (by simp)
  · exact stpS (sm_small (by decide) (by decide)) hid z z z (fun k hk => idB_sm (h5 k hk)) h6
  · exact stpS (sm_small (by decide) (by decide)) hid z (sm_small h3 (by omega)) (sm_small (by omega) (by omega)) no_kids (by simp)
theorem may_compsS {cs : List C} (h : MayP cs) : (∀ c ∈ cs, CpS c) ∧ cs.length < 1000000000 := by
  obtain ⟨h1, h2, _⟩ := K.okB_iff.1 h.1
  refine ⟨fun c hc => ?_, by omega⟩
  rcases h2 c hc with ⟨hk, h0, hn, ht⟩ | ⟨hk, hn, ht⟩
  · refine .inr ⟨hk, ⟨h0, by omega⟩, ?_⟩
    apply ByteArray.ext
    exact Array.eq_empty_of_size_eq_zero ht
  · exact .inl ⟨hk, hn, by rw [bytes_len]; omega⟩
theorem may_entryS {e : En} (h : EnMay e) : EnS e := by
  obtain ⟨a1, a2, a3, a4, a5, a6, a7⟩ := h
  exact ⟨sm_small a1 (by omega), sm_small (by omega) (by omega), may_compsS a5, fun s hs => (may_stepS (a7 s hs)).1, by omega⟩
/-- The first letter of a message's text. -/
def msgK (m : Ms) : UInt8 := if m.kd = 0 then 80 else if m.kd = 1 then 67 else 83
theorem msg_rt {m : Ms} (h : MsMay m) : msgC m [] = msgK m :: (msgC m []).tail ∧ pMsg (msgK m) ((msgC m []).tail, false) = (m, [], false) := by
  obtain ⟨⟨a1, a2, a3, a4, a5, a6⟩, h⟩ := h
  obtain ⟨kd, cl, rv, sq, fr, ls, rf, tx, ro, nx, ns, ed, es⟩ := m
  dsimp only at a1 a2 a3 a4 a5 a6
  have n1 := num_rt cl
  have n2 := num_rt rv
  have s1 : Sm cl := sm_small a1 (by omega)
  have s2 : Sm rv := sm_small a3 (by omega)
  have s3 : Sm sq := sm_small a5 (by omega)
  unfold msgC msgK pMsg MsBare at *
  dsimp only at *
  rcases h with ⟨rfl, ⟨rfl, rfl, rfl, rfl, rfl, rfl, b7⟩, b1, b2, b3⟩ | ⟨rfl, ⟨rfl, rfl, rfl, rfl, rfl, rfl, b7⟩, b1, rfl, b3, b4⟩ | ⟨rfl, b1, b2, b3, b4, b5, b6, b8, b9⟩
  · obtain rfl := List.eq_nil_of_length_eq_zero b7
    obtain rfl := List.eq_nil_of_length_eq_zero b1
    have c1 := comps_rt ed [] (may_compsS b2)
    simp [num_rt cl _ s1, num_rt rv _ s2, num_rt sq _ s3, c1]
  · obtain rfl := List.eq_nil_of_length_eq_zero b7
    obtain rfl := List.eq_nil_of_length_eq_zero b1
    have c1 := list_rt ent_rt ent_gt es [] ⟨fun e he => may_entryS (b4 e he), by omega⟩
    simp [num_rt cl _ s1, num_rt rv _ s2, c1]
  · obtain rfl := List.eq_nil_of_length_eq_zero b1
    obtain rfl := List.eq_nil_of_length_eq_zero b2
    obtain ⟨c1, c2, c3, c4⟩ := may_nodesS b9
    have t1 := list_rt node_rt node_gt ns [] ⟨fun x hx => (c4 x hx).1, by omega⟩
    have t3 : pTree (treeC ro nx ns [], false) = ((ro, nx, ns), [], false) := by
      unfold pTree treeC
      simp only [num_rt ro _ c2, num_rt nx _ c3, t1]
    have t4 := str_rt (bytesOf tx) (treeC ro nx ns []) (by show (bytesOf tx).length < 1000000000; rw [bytes_len]; omega)
    have e : (⟨(bytesOf tx).toArray⟩ : ByteArray) = tx := by simp [bytesOf]
    cases rf
    · simp [num_rt cl _ s1, num_rt rv _ s2, num_rt sq _ s3, num_rt fr _ (sm_small b3 (by omega)), num_rt ls _ (sm_small b5 (by omega)), num_rt 0 _ (sm_small (Int.le_refl _) (by decide)), t4, t3, e]
    · simp [num_rt cl _ s1, num_rt rv _ s2, num_rt sq _ s3, num_rt fr _ (sm_small b3 (by omega)), num_rt ls _ (sm_small b5 (by omega)), num_rt 1 _ (sm_small (by decide) (by decide)), t4, t3, e]

end Go.Proofs.YtjmfjlffcopnnaaGreatDoor

namespace Go.Proofs.YtjmfjlffcopnnaaGreatDoor
open Go.RowKit
open Go.Proofs.YtjmfjlffcopnnaaGreatDoor.K (C RowC PieceAt MayP)

end Go.Proofs.YtjmfjlffcopnnaaGreatDoor

namespace Go.Proofs.YtjmfjlffcopnnaaGreatDoor
open Go.RowKit
open Go.Proofs.YtjmfjlffcopnnaaGreatDoor.K (C RowC PieceAt MayP)

end Go.Proofs.YtjmfjlffcopnnaaGreatDoor

namespace Go.Proofs.YtjmfjlffcopnnaaGreatDoor
open Go.RowKit

/-- A taker in its box. -/
structure TkAt (w : World) (tb : Nat) (s : ByteArray) (p : Nat) (bad : Bool) : Prop where
  obj : w.heap[tb]? = some (.cells #[.string s, .int .i64 p, .bool bad] 74 (0, 0))
  le : p ≤ s.size

end Go.Proofs.YtjmfjlffcopnnaaGreatDoor

namespace Go.Proofs.YtjmfjlffcopnnaaGreatDoor
open Go.RowKit

end Go.Proofs.YtjmfjlffcopnnaaGreatDoor

namespace Go.Proofs.YtjmfjlffcopnnaaGreatDoor
open Go.RowKit

theorem pDig_nonneg (e : UInt8) (t : Ts) : 0 ≤ (pDig e t).1 := by
  unfold pDig
  split
  · exact Int.le_refl _
  · exact Int.le_refl _
  · split
    · exact Int.natCast_nonneg _
    · exact Int.le_refl _

end Go.Proofs.YtjmfjlffcopnnaaGreatDoor

namespace Go.Proofs.YtjmfjlffcopnnaaGreatDoor
open Go.RowKit

theorem TkAt.kept {w w' : World} {tb p : Nat} {s : ByteArray} {bad : Bool} {row : Option Nat} (h : TkAt w tb s p bad) (hg : w.grownBy w' row) (hne : ∀ g, row = some g → g ≠ tb) : TkAt w' tb s p bad :=
  ⟨(hg.block tb (Array.getElem?_eq_some_iff.1 h.obj).1 (fun e => hne tb e.symm rfl)).trans h.obj, h.le⟩
theorem pDig_len (e : UInt8) (t : Ts) : (pDig e t).2.1.length ≤ t.1.length := by
  unfold pDig
  split
  · simp
  · simp
  · rename_i h
    have := congrArg List.length h
    simp at this
    split <;> simp <;> omega
theorem count_le (t : Ts) : 0 ≤ (pCount t).1 ∧ (pCount t).1.toNat ≤ t.1.length := by
  have h1 := pDig_nonneg 44 t
  have h2 := pDig_len 44 t
  unfold pCount
  split
  · exact ⟨Int.le_refl _, by simp⟩
  · unfold pNum at *
    exact ⟨h1, by omega⟩

end Go.Proofs.YtjmfjlffcopnnaaGreatDoor

namespace Go.Proofs.YtjmfjlffcopnnaaGreatDoor
open Go.RowKit
open Go.Proofs.YtjmfjlffcopnnaaGreatDoor.K (C)

def lyC : Ly C where
  ty := 48
  sz := 3
  cells c := [.int .i64 c.k, .int .i64 c.n, .string c.t]
  len _ := rfl
  one t u hu := by
    simp at hu
    rcases hu with rfl | rfl | rfl <;> rfl
  pos := by decide
theorem info48 : (Tryz.prog.info? 48).map (fun i => (i.zero, i.size, i.bytes)) = some (some (.agg #[.int .i64 0, .int .i64 0, .string ⟨#[]⟩]), 3, 32) := by kernel_rfl

end Go.Proofs.YtjmfjlffcopnnaaGreatDoor

namespace Go.Proofs.YtjmfjlffcopnnaaGreatDoor
open Go.RowKit
open Go.Proofs.YtjmfjlffcopnnaaGreatDoor.K (C)

theorem TkAt.out_of {w : World} {tb p g : Nat} {s : ByteArray} {bad : Bool} (h : TkAt w tb s p bad) (hg : w.heap.size ≤ g) : g ≠ tb := by
  have := (Array.getElem?_eq_some_iff.1 h.obj).1
  omega
theorem box_kept {w w' : World} {g k : Nat} {o : Obj} (h : w.heap[k]? = some o) (hg : w.grownBy w' (some g)) (hne : k ≠ g) : w'.heap[k]? = some o :=
  (hg.block k (Array.getElem?_eq_some_iff.1 h).1 (fun e => hne (Option.some.inj e))).trans h

/-- A tree that is being taken: the taker, the answer's box, the tree's box, its nodes so far. -/
structure TT (w wr : World) (s : ByteArray) (tb p : Nat) (bad : Bool) (rb xb : Nat) (root next : Int) (ns : List Nd) (nv : Value) (vs : List Nv) : Prop where
  tk : TkAt wr tb s p bad
  boxR : wr.heap[rb]? = some (.cells #[.int .i64 0, .int .i64 0, .slice none 0 0] 26 (0, 0))
  boxX : wr.heap[xb]? = some (.cells #[.int .i64 root, .int .i64 next, nv] 26 (0, 0))
  own : OwnT wr w.heap.size nv vs ns
  grown : w.grownBy wr (some tb)
  newR : w.heap.size ≤ rb
  newX : w.heap.size ≤ xb
  ne : rb ≠ xb

end Go.Proofs.YtjmfjlffcopnnaaGreatDoor

namespace Go.Proofs.YtjmfjlffcopnnaaGreatDoor
open Go.RowKit
open Go.Proofs.YtjmfjlffcopnnaaGreatDoor.K (C RowC)

theorem OwnS.kept {w w' : World} {base g : Nat} {v : Value} {vs : List Sv} {ss : List St} {c : Array Value} {e : TypeId} (h : OwnS w base v vs ss) (hg : w.grownBy w' (some g)) (hc : w.heap[g]? = some (.cells c e (0, 0))) (h1 : e ≠ 51) (h2 : e ≠ 3) : OwnS w' base v vs ss :=
  ⟨h.row.kept hg (fun k hk => by
      obtain ⟨cur, hcur⟩ := h.row.obj hk
      intro e0; cases e0
      exact type_ne hc hcur h1 rfl), h.len, fun i x s hx hs => by
    obtain ⟨a1, a2, a3, a4, a5, a6⟩ := h.fit i x s hx hs
    exact ⟨a1, a2, a3, a4, a5, a6.kept hg (fun k hk => by
      obtain ⟨cur, hcur⟩ := a6.obj hk
      intro e0; cases e0
      exact type_ne hc hcur h2 rfl)⟩⟩
theorem OwnS.mono {w : World} {base base' : Nat} {v : Value} {vs : List Sv} {ss : List St} (h : OwnS w base v vs ss) (hb : base' ≤ base) : OwnS w base' v vs ss :=
  ⟨h.row.mono hb, h.len, fun i x s hx hs => by
    obtain ⟨a1, a2, a3, a4, a5, a6⟩ := h.fit i x s hx hs
    exact ⟨a1, a2, a3, a4, a5, a6.mono hb⟩⟩
theorem compsOwn_kept {w w' : World} {base g : Nat} {v : Value} {cs : List C} {c : Array Value} {e : TypeId} (h : lyC.Own w base v cs) (hg : w.grownBy w' (some g)) (hc : w.heap[g]? = some (.cells c e (0, 0))) (h1 : e ≠ 48) : lyC.Own w' base v cs :=
  h.kept hg (fun k hk => by
      obtain ⟨cur, hcur⟩ := h.obj hk
      intro e0; cases e0
      exact type_ne hc hcur h1 rfl)
theorem own_rowC {w : World} {base n cap : Nat} {p : Option Addr} {cs : List C} (h : lyC.Own w base (.slice p n cap) cs) : RowC w p cs := fun i c hi => by
  obtain ⟨b, o, hp, hat⟩ := h.row i c hi
  exact ⟨b, o, hp, hat 0 _ rfl, hat 1 _ rfl, hat 2 _ rfl⟩

/-- A row of entries of the call's own, their edits' and their deltas' rows too. -/
def FitE (w : World) (base : Nat) (v : Ev) (e : En) : Prop := v.cl = e.cl ∧ v.sq = e.sq ∧ lyC.Own w base v.ev e.ed ∧ ∃ vs, OwnS w base v.dv vs e.dl
structure OwnE (w : World) (base : Nat) (v : Value) (vs : List Ev) (es : List En) : Prop where
  row : lyE.Own w base v vs
  len : vs.length = es.length
  fit : ∀ (i : Nat) x e, vs[i]? = some x → es[i]? = some e → FitE w base x e
theorem OwnE.nil (w : World) (base : Nat) : OwnE w base (.slice none 0 0) [] [] := ⟨Ly.Own.nil w base, rfl, fun i x s h => by simp at h⟩
theorem FitE.below {w w' : World} {base : Nat} {v : Ev} {e : En} (h : FitE w base v e) (hb : Below w.heap.size w w') : FitE w' base v e := by
  obtain ⟨a1, a2, a3, vs, a4⟩ := h
  exact ⟨a1, a2, a3.below hb, vs, a4.below hb⟩
theorem OwnE.below {w w' : World} {base : Nat} {v : Value} {vs : List Ev} {es : List En} (h : OwnE w base v vs es) (hb : Below w.heap.size w w') : OwnE w' base v vs es :=
  ⟨h.row.below hb, h.len, fun i x s hx hs => (h.fit i x s hx hs).below hb⟩
theorem FitE.kept {w w' : World} {base g : Nat} {v : Ev} {m : En} {c : Array Value} {e : TypeId} (h : FitE w base v m) (hg : w.grownBy w' (some g)) (hc : w.heap[g]? = some (.cells c e (0, 0))) (h2 : e ≠ 48) (h3 : e ≠ 51) (h4 : e ≠ 3) : FitE w' base v m := by
  obtain ⟨a1, a2, a3, vs, a4⟩ := h
  exact ⟨a1, a2, compsOwn_kept a3 hg hc h2, vs, a4.kept hg hc h3 h4⟩
theorem OwnE.kept {w w' : World} {base g : Nat} {v : Value} {vs : List Ev} {es : List En} {c : Array Value} {e : TypeId} (h : OwnE w base v vs es) (hg : w.grownBy w' (some g)) (hc : w.heap[g]? = some (.cells c e (0, 0))) (h1 : e ≠ 54) (h2 : e ≠ 48) (h3 : e ≠ 51) (h4 : e ≠ 3) : OwnE w' base v vs es :=
  ⟨h.row.kept hg (fun k hk => by
      obtain ⟨cur, hcur⟩ := h.row.obj hk
      intro e0; cases e0
      exact type_ne hc hcur h1 rfl), h.len, fun i x s hx hs => (h.fit i x s hx hs).kept hg hc h2 h3 h4⟩
theorem FitE.mono {w : World} {base base' : Nat} {v : Ev} {m : En} (h : FitE w base v m) (hb : base' ≤ base) : FitE w base' v m := by
  obtain ⟨a1, a2, a3, vs, a4⟩ := h
  exact ⟨a1, a2, a3.mono hb, vs, a4.mono hb⟩
/-- What is no row of entries stays, where a row of entries is written. -/
theorem FitE.past {w w' : World} {base base2 : Nat} {v : Ev} {m : En} {nv : Value} {vs : List Ev} (h : FitE w base v m) (ho : lyE.Own w base2 nv vs) (hg : w.grownBy w' nv.ownBlock) : FitE w' base v m := by
  cases hb : nv.ownBlock with
  | none =>
    rw [hb] at hg
    exact h.below ⟨hg.os, hg.tape, hg.output, hg.size, fun k hk => hg.block k hk (by simp)⟩
  | some g =>
    rw [hb] at hg
    obtain ⟨c, hc⟩ := ho.obj hb
    exact h.kept hg hc (by decide) (by decide) (by decide)
theorem OwnE.pushK {W w' : World} {base : Nat} {nv nv' : Value} {vs : List Ev} {es : List En} (h : OwnE W base nv vs es) (hg : W.grownBy w' nv.ownBlock) (v : Ev) (e : En) (hv : FitE W base v e) (ho : lyE.Own w' base nv' (vs ++ [v])) : OwnE w' base nv' (vs ++ [v]) (es ++ [e]) := by
  have hl := h.len
  refine ⟨ho, by rw [List.length_append, List.length_append, hl]; rfl, fun i x m hx hm => ?_⟩
  by_cases hi : i < vs.length
  · rw [List.getElem?_append_left hi] at hx
    rw [List.getElem?_append_left (by omega)] at hm
    exact (h.fit i x m hx hm).past h.row hg
  · have hi2 : i = vs.length := by have := (List.getElem?_eq_some_iff.1 hx).1; simp at this; omega
    subst hi2
    rw [List.getElem?_append_right (Nat.le_refl _), Nat.sub_self] at hx
    rw [List.getElem?_append_right (by omega), hl, Nat.sub_self] at hm
    simp at hx hm
    subst hx; subst hm
    exact hv.past h.row hg
theorem OwnE.read {w : World} {base n cap : Nat} {p : Option Addr} {vs : List Ev} {es : List En} (h : OwnE w base (.slice p n cap) vs es) : EntsR w p es := fun i e hi => by
  have hl : i < vs.length := by rw [h.len]; exact (List.getElem?_eq_some_iff.1 hi).1
  have hv := List.getElem?_eq_getElem hl
  obtain ⟨a, b, c, us, d⟩ := h.fit i _ e hv hi
  obtain ⟨g, o, hp, hat⟩ := h.row.row i _ hv
  generalize vs[i] = v at *
  obtain ⟨vcl, vsq, vep, ven, vec, vdp, vdn, vdc⟩ := v
  unfold Ev.ev at c
  unfold Ev.dv at d
  dsimp only at a b c d
  obtain ⟨kp, kc, hkv⟩ := c.form
  cases hkv
  obtain ⟨kp2, kc2, hkv2⟩ := d.row.form
  cases hkv2
  have hlen : us.length = e.dl.length := d.len
  subst a b
  refine ⟨g, o, vep, vec, vdp, vdc, hp, ?_, own_rowC c, d.read⟩
  rw [← hlen]
  exact hat

end Go.Proofs.YtjmfjlffcopnnaaGreatDoor
