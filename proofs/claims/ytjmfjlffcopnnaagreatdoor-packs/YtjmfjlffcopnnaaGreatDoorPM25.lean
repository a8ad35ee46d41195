/-
  Ta6, TaE, in one text. Conditions: as each theorem's premises say.
-/
import Derived.Test.YtjmfjlffcopnnaaGreatDoorPM24
namespace Go.Proofs.YtjmfjlffcopnnaaGreatDoor
open Go.RowKit
open Go.Proofs.YtjmfjlffcopnnaaGreatDoor.K (C)

def NumT (s : ByteArray) (tb p : Nat) (bad : Bool) (w : World) (e : Ending) (w' : World) : Prop := ∃ (x : Int) (q : Nat) (d : Bool), e = .returned (.int .i64 x) ∧ pNum (fromL s p, bad) = (x, fromL s q, d) ∧ TkAt w' tb s q d ∧ w.grownBy w' (some tb)
theorem num_t (s : ByteArray) (tb p : Nat) (bad : Bool) (w : World) (hs : s.size ≤ 1000000) (h : TkAt w tb s p bad) : Calls Tryz.prog 29 #[.pointer (some ⟨tb, 0, none⟩)] w (NumT s tb p bad w) :=
  (tkNum_any s tb p bad w hs h).mono (fun _ _ ⟨h1, q, d, h2, h3, h4⟩ => ⟨_, q, d, h1, by rw [h3], h2, h4⟩)
def CountT (s : ByteArray) (tb p : Nat) (bad : Bool) (w : World) (e : Ending) (w' : World) : Prop := ∃ (x q : Nat) (d : Bool), e = .returned (.int .i64 (x : Int)) ∧ x ≤ 1000000 ∧ pCount (fromL s p, bad) = ((x : Int), fromL s q, d) ∧ TkAt w' tb s q d ∧ w.grownBy w' (some tb)
theorem count_t (s : ByteArray) (tb p : Nat) (bad : Bool) (w : World) (hs : s.size ≤ 1000000) (h : TkAt w tb s p bad) : Calls Tryz.prog 31 #[.pointer (some ⟨tb, 0, none⟩)] w (CountT s tb p bad w) :=
  (tkCount_any s tb p bad w hs h).mono (fun _ _ ⟨h1, q, d, h2, h3, h4⟩ => by
    have CL := count_le (fromL s p, bad)
    have hL := from_len s p
    dsimp only at CL
    obtain ⟨K, hK⟩ := Int.eq_ofNat_of_zero_le CL.1
    refine ⟨K, q, d, by rw [h1, hK], ?_, by rw [← hK, h3], h2, h4⟩
    have := CL.2
    rw [hK, hL, Int.toNat_natCast] at this
    omega)
def NumsT (s : ByteArray) (tb p : Nat) (bad : Bool) (w : World) (e : Ending) (w' : World) : Prop := ∃ (kp : Option Addr) (kc : Nat) (l : List Int) (q : Nat) (d : Bool), e = .returned (.slice kp l.length kc) ∧ lyI.Own w' w.heap.size (.slice kp l.length kc) l ∧ pList pNum (fromL s p, bad) = (l, fromL s q, d) ∧ TkAt w' tb s q d ∧ w.grownBy w' (some tb)
theorem nums_t (s : ByteArray) (tb p : Nat) (bad : Bool) (w : World) (hs : s.size ≤ 1000000) (h : TkAt w tb s p bad) : Calls Tryz.prog 84 #[.pointer (some ⟨tb, 0, none⟩)] w (NumsT s tb p bad w) :=
  (tkNums_any s tb p bad w hs h).mono (fun _ _ ⟨v, h1, h5, q, d, h2, h3, h4⟩ => by
    obtain ⟨kp, kc, rfl⟩ := h5.form
    exact ⟨kp, kc, _, q, d, h1, h5, by rw [h3], h2, h4⟩)
def CompsT (s : ByteArray) (tb p : Nat) (bad : Bool) (w : World) (e : Ending) (w' : World) : Prop := ∃ (kp : Option Addr) (kc : Nat) (l : List C) (q : Nat) (d : Bool), e = .returned (.slice kp l.length kc) ∧ lyC.Own w' w.heap.size (.slice kp l.length kc) l ∧ pComps (fromL s p, bad) = (l, fromL s q, d) ∧ TkAt w' tb s q d ∧ w.grownBy w' (some tb)
theorem comps_t (s : ByteArray) (tb p : Nat) (bad : Bool) (w : World) (hs : s.size ≤ 1000000) (h : TkAt w tb s p bad) : Calls Tryz.prog 30 #[.pointer (some ⟨tb, 0, none⟩)] w (CompsT s tb p bad w) :=
  (tkComps_any s tb p bad w hs h).mono (fun _ _ ⟨v, h1, h5, q, d, h2, h3, h4⟩ => by
    obtain ⟨kp, kc, rfl⟩ := h5.form
    exact ⟨kp, kc, _, q, d, h1, h5, by rw [h3], h2, h4⟩)
def StrT (s : ByteArray) (tb p : Nat) (bad : Bool) (w : World) (e : Ending) (w' : World) : Prop := ∃ (z : ByteArray) (q : Nat) (d : Bool), e = .returned (.string z) ∧ pStr (fromL s p, bad) = (bytesOf z, fromL s q, d) ∧ TkAt w' tb s q d ∧ w.grownBy w' (some tb)
theorem str_t (s : ByteArray) (tb p : Nat) (bad : Bool) (w : World) (hs : s.size ≤ 1000000) (h : TkAt w tb s p bad) : Calls Tryz.prog 33 #[.pointer (some ⟨tb, 0, none⟩)] w (StrT s tb p bad w) :=
  (tkStr_any s tb p bad w hs h).mono (fun _ _ ⟨z, h1, hz, q, d, h2, h3, h4⟩ => ⟨z, q, d, h1, by rw [hz, h3], h2, h4⟩)

theorem node_eq {t t1 t2 t3 t4 t5 : Ts} {x1 x2 x3 x4 : Int} {l : List Int} (h1 : pNum t = (x1, t1)) (h2 : pNum t1 = (x2, t2)) (h3 : pNum t2 = (x3, t3)) (h4 : pNum t3 = (x4, t4)) (h5 : pList pNum t4 = (l, t5)) : pNode t = (⟨x1, x2, x3, x4, l⟩, t5) := by
  unfold pNode
  simp only [h1, h2, h3, h4, h5]
theorem step_eq {t t1 t2 t3 t4 t5 t6 : Ts} {x1 x2 x3 x4 x5 : Int} {l : List Int} (h1 : pNum t = (x1, t1)) (h2 : pNum t1 = (x2, t2)) (h3 : pNum t2 = (x3, t3)) (h4 : pNum t3 = (x4, t4)) (h5 : pNum t4 = (x5, t5)) (h6 : pList pNum t5 = (l, t6)) : pStep t = (⟨x1, x2, x3, x4, x5, l⟩, t6) := by
  unfold pStep
  simp only [h1, h2, h3, h4, h5, h6]

theorem TkAt.out_of {w : World} {tb p g : Nat} {s : ByteArray} {bad : Bool} (h : TkAt w tb s p bad) (hg : w.heap.size ≤ g) : g ≠ tb := by
  have := (Array.getElem?_eq_some_iff.1 h.obj).1
  omega
theorem box_kept {w w' : World} {g k : Nat} {o : Obj} (h : w.heap[k]? = some o) (hg : w.grownBy w' (some g)) (hne : k ≠ g) : w'.heap[k]? = some o :=
  (hg.block k (Array.getElem?_eq_some_iff.1 h).1 (fun e => hne (Option.some.inj e))).trans h

/-- A tree that is being taken: the taker, the answer's box, the tree's box, its nodes so far. -/
structure TT (w wr : World) (s : ByteArray) (tb p : Nat) (bad : Bool) (rb xb : Nat) (root next : Int) (ns : List Nd) (nv : Value) (vs : List Nv) : Prop where
  tk : TkAt wr tb s p bad
  boxR : wr.heap[rb]? = some (.cells #[.int .i64 0, .int .i64 0, .slice none 0 0] 26 (0, 0))
  boxX : wr.heap[xb]? = some (.cells #[.int .i64 root, .int .i64 next, nv] 26 (0, 0))
  own : OwnT wr w.heap.size nv vs ns
  grown : w.grownBy wr (some tb)
  newR : w.heap.size ≤ rb
  newX : w.heap.size ≤ xb
  ne : rb ≠ xb
theorem TT.go {w wr W : World} {s : ByteArray} {tb p q rb xb : Nat} {bad d : Bool} {root next : Int} {ns : List Nd} {nv : Value} {vs : List Nv} (h : TT w wr s tb p bad rb xb root next ns nv vs) (hg : wr.grownBy W (some tb)) (ht : TkAt W tb s q d) : TT w W s tb q d rb xb root next ns nv vs :=
  ⟨ht, box_kept h.boxR hg (type_ne h.boxR h.tk.obj (by decide)), box_kept h.boxX hg (type_ne h.boxX h.tk.obj (by decide)), h.own.kept hg h.tk.obj (by decide) (by decide), grown_trans h.grown hg (fun g e => .inl e), h.newR, h.newX, h.ne⟩
theorem TT.push {w W w' : World} {s : ByteArray} {tb p rb xb : Nat} {bad : Bool} {root next : Int} {ns : List Nd} {nv nv' : Value} {vs : List Nv} (h : TT w W s tb p bad rb xb root next ns nv vs) (hg : W.grownBy w' nv.ownBlock) (v : Nv) (m : Nd) (hv : Fits W w.heap.size v m) (hap : ∀ (i : Nat) x g, vs[i]? = some x → x.kv.ownBlock = some g → v.kv.ownBlock ≠ some g) (ho : lyN.Own w' w.heap.size nv' (vs ++ [v])) : TT w (w'.setCell ⟨xb, 2, none⟩ nv') s tb p bad rb xb root next (ns ++ [m]) nv' (vs ++ [v]) := by
  have a1 := box_staysN h.own.row hg h.boxR (by decide)
  have a2 := box_staysN h.own.row hg h.boxX (by decide)
  have a3 := box_staysN h.own.row hg h.tk.obj (by decide)
  have g2 := set_grown w' xb 2 nv'
  have ne := h.ne
  refine ⟨⟨box_kept a3 g2 (type_ne a3 a2 (by decide)), h.tk.le⟩, box_kept a1 g2 ne, ?_, ?_, ?_, h.newR, h.newX, ne⟩
  · rw [heap_setCell_at a2]; rfl
  · exact (h.own.pushK hg v m hv hap ho).kept g2 a2 (by decide) (by decide)
  · exact grown_setNew (grown_trans h.grown hg (fun g e => .inr (h.own.row.lt e).1)) h.newX _
/-- What tree answers. -/
def TreeT (s : ByteArray) (tb p : Nat) (bad : Bool) (w : World) (e : Ending) (w' : World) : Prop := ∃ (root next : Int) (np : Option Addr) (nc : Nat) (vs : List Nv) (ns : List Nd) (q : Nat) (d : Bool), e = .returned (trV root next np ns.length nc) ∧ pTree (fromL s p, bad) = ((root, next, ns), fromL s q, d) ∧ OwnT w' w.heap.size (.slice np ns.length nc) vs ns ∧ TkAt w' tb s q d ∧ w.grownBy w' (some tb)
theorem row_done {α : Type} {f : Ts → α × Ts} {k : Nat} {acc : List α} {t : Ts} (h : k = 0 ∨ t.2 = true) : pRow f k acc t = (acc, t) := by
  cases k with
  | zero => rfl
  | succ k =>
    unfold pRow
    rw [if_pos (h.resolve_left (by omega))]
theorem row_next {α : Type} {f : Ts → α × Ts} {k j : Nat} {acc : List α} {l : List UInt8} (hk : k = j + 1) {x : α} {t : Ts} (hf : f (l, false) = (x, t)) : pRow f k acc (l, false) = pRow f j (acc ++ [x]) t := by
  subst hk
  have e : pRow f (j + 1) acc (l, false) = if (l, false).2 = true then (acc, (l, false)) else pRow f j (acc ++ [(f (l, false)).1]) (f (l, false)).2 := rfl
  rw [e, if_neg (by simp), hf]
theorem tree_eq {t t1 t2 t3 t4 : Ts} {x1 x2 : Int} {K : Nat} {ns : List Nd} (h1 : pNum t = (x1, t1)) (h2 : pNum t1 = (x2, t2)) (h3 : pCount t2 = ((K : Int), t3)) (h4 : pRow pNode K [] t3 = (ns, t4)) : pTree t = ((x1, x2, ns), t4) := by
  unfold pTree pList
  simp only [h1, h2, h3, Int.toNat_natCast, h4]

end Go.Proofs.YtjmfjlffcopnnaaGreatDoor

namespace Go.Proofs.YtjmfjlffcopnnaaGreatDoor
open Go.RowKit
open Go.Proofs.YtjmfjlffcopnnaaGreatDoor.K (C RowC)

theorem OwnS.kept {w w' : World} {base g : Nat} {v : Value} {vs : List Sv} {ss : List St} {c : Array Value} {e : TypeId} (h : OwnS w base v vs ss) (hg : w.grownBy w' (some g)) (hc : w.heap[g]? = some (.cells c e (0, 0))) (h1 : e ≠ 51) (h2 : e ≠ 3) : OwnS w' base v vs ss :=
  ⟨h.row.kept hg (fun k hk => by
      obtain ⟨cur, hcur⟩ := h.row.obj hk
      intro e0; cases e0
      exact type_ne hc hcur h1 rfl), h.len, fun i x s hx hs => by
    obtain ⟨a1, a2, a3, a4, a5, a6⟩ := h.fit i x s hx hs
    exact ⟨a1, a2, a3, a4, a5, a6.kept hg (fun k hk => by
      obtain ⟨cur, hcur⟩ := a6.obj hk
      intro e0; cases e0
      exact type_ne hc hcur h2 rfl)⟩⟩
theorem OwnS.mono {w : World} {base base' : Nat} {v : Value} {vs : List Sv} {ss : List St} (h : OwnS w base v vs ss) (hb : base' ≤ base) : OwnS w base' v vs ss :=
  ⟨h.row.mono hb, h.len, fun i x s hx hs => by
    obtain ⟨a1, a2, a3, a4, a5, a6⟩ := h.fit i x s hx hs
    exact ⟨a1, a2, a3, a4, a5, a6.mono hb⟩⟩
theorem compsOwn_kept {w w' : World} {base g : Nat} {v : Value} {cs : List C} {c : Array Value} {e : TypeId} (h : lyC.Own w base v cs) (hg : w.grownBy w' (some g)) (hc : w.heap[g]? = some (.cells c e (0, 0))) (h1 : e ≠ 48) : lyC.Own w' base v cs :=
  h.kept hg (fun k hk => by
      obtain ⟨cur, hcur⟩ := h.obj hk
      intro e0; cases e0
      exact type_ne hc hcur h1 rfl)
/-- A box of another type stays, where the row of steps is written. -/
theorem box_staysS {w w' : World} {base k : Nat} {v : Value} {vs : List Sv} {c : Array Value} {ty : TypeId} (ho : lyS.Own w base v vs) (hg : w.grownBy w' v.ownBlock) (h : w.heap[k]? = some (.cells c ty (0, 0))) (hty : ty ≠ 51) : w'.heap[k]? = some (.cells c ty (0, 0)) :=
  (hg.block k (Array.getElem?_eq_some_iff.1 h).1 (fun e => by
    obtain ⟨cur, hcur⟩ := ho.obj e.symm
    exact type_ne h hcur hty rfl)).trans h
theorem own_rowC {w : World} {base n cap : Nat} {p : Option Addr} {cs : List C} (h : lyC.Own w base (.slice p n cap) cs) : RowC w p cs := fun i c hi => by
  obtain ⟨b, o, hp, hat⟩ := h.row i c hi
  exact ⟨b, o, hp, hat 0 _ rfl, hat 1 _ rfl, hat 2 _ rfl⟩

/-- An entry that is being taken: the taker, the answer's box, the entry's box, its steps so far. -/
structure EE (w wr : World) (s : ByteArray) (tb p : Nat) (bad : Bool) (rb xb : Nat) (cl sq : Int) (ep : Option Addr) (ec : Nat) (ed : List C) (ss : List St) (nv : Value) (vs : List Sv) : Prop where
  tk : TkAt wr tb s p bad
  boxR : wr.heap[rb]? = some (.cells #[.int .i64 0, .int .i64 0, .slice none 0 0, .slice none 0 0] 54 (0, 0))
  boxX : wr.heap[xb]? = some (.cells #[.int .i64 cl, .int .i64 sq, .slice ep ed.length ec, nv] 54 (0, 0))
  edit : lyC.Own wr w.heap.size (.slice ep ed.length ec) ed
  own : OwnS wr w.heap.size nv vs ss
  grown : w.grownBy wr (some tb)
  newR : w.heap.size ≤ rb
  newX : w.heap.size ≤ xb
  ne : rb ≠ xb
theorem EE.go {w wr W : World} {s : ByteArray} {tb p q rb xb ec : Nat} {bad d : Bool} {cl sq : Int} {ep : Option Addr} {ed : List C} {ss : List St} {nv : Value} {vs : List Sv} (h : EE w wr s tb p bad rb xb cl sq ep ec ed ss nv vs) (hg : wr.grownBy W (some tb)) (ht : TkAt W tb s q d) : EE w W s tb q d rb xb cl sq ep ec ed ss nv vs :=
  ⟨ht, box_kept h.boxR hg (type_ne h.boxR h.tk.obj (by decide)), box_kept h.boxX hg (type_ne h.boxX h.tk.obj (by decide)), compsOwn_kept h.edit hg h.tk.obj (by decide), h.own.kept hg h.tk.obj (by decide) (by decide), grown_trans h.grown hg (fun g e => .inl e), h.newR, h.newX, h.ne⟩
theorem EE.push {w W w' : World} {s : ByteArray} {tb p rb xb ec : Nat} {bad : Bool} {cl sq : Int} {ep : Option Addr} {ed : List C} {ss : List St} {nv nv' : Value} {vs : List Sv} (h : EE w W s tb p bad rb xb cl sq ep ec ed ss nv vs) (hg : W.grownBy w' nv.ownBlock) (v : Sv) (m : St) (hv : FitS W w.heap.size v m) (ho : lyS.Own w' w.heap.size nv' (vs ++ [v])) : EE w (w'.setCell ⟨xb, 3, none⟩ nv') s tb p bad rb xb cl sq ep ec ed (ss ++ [m]) nv' (vs ++ [v]) := by
  have a1 := box_staysS h.own.row hg h.boxR (by decide)
  have a2 := box_staysS h.own.row hg h.boxX (by decide)
  have a3 := box_staysS h.own.row hg h.tk.obj (by decide)
  have a4 : lyC.Own w' w.heap.size (.slice ep ed.length ec) ed := h.edit.kept hg (fun k hk e0 => by
      obtain ⟨c1, h1⟩ := h.edit.obj hk
      obtain ⟨c2, h2⟩ := h.own.row.obj e0
      exact type_ne h1 h2 (by decide) rfl)
  have g2 := set_grown w' xb 3 nv'
  have ne := h.ne
  refine ⟨⟨box_kept a3 g2 (type_ne a3 a2 (by decide)), h.tk.le⟩, box_kept a1 g2 ne, ?_, compsOwn_kept a4 g2 a2 (by decide), ?_, ?_, h.newR, h.newX, ne⟩
  · rw [heap_setCell_at a2]; rfl
  · exact (h.own.pushK hg v m hv ho).kept g2 a2 (by decide) (by decide)
  · exact grown_setNew (grown_trans h.grown hg (fun g e => .inr (h.own.row.lt e).1)) h.newX _
/-- What entry answers. -/
def EntT (s : ByteArray) (tb p : Nat) (bad : Bool) (w : World) (e : Ending) (w' : World) : Prop := ∃ (cl sq : Int) (ep : Option Addr) (ec : Nat) (ed : List C) (np : Option Addr) (nc : Nat) (vs : List Sv) (ss : List St) (q : Nat) (d : Bool), e = .returned (enV cl sq ep ed.length ec np ss.length nc) ∧ pEnt (fromL s p, bad) = (⟨cl, sq, ed, ss⟩, fromL s q, d) ∧ lyC.Own w' w.heap.size (.slice ep ed.length ec) ed ∧ OwnS w' w.heap.size (.slice np ss.length nc) vs ss ∧ TkAt w' tb s q d ∧ w.grownBy w' (some tb)
theorem ent_eq {t t1 t2 t3 t4 t5 : Ts} {x1 x2 : Int} {ed : List C} {K : Nat} {ss : List St} (h1 : pNum t = (x1, t1)) (h2 : pNum t1 = (x2, t2)) (h3 : pComps t2 = (ed, t3)) (h4 : pCount t3 = ((K : Int), t4)) (h5 : pRow pStep K [] t4 = (ss, t5)) : pEnt t = (⟨x1, x2, ed, ss⟩, t5) := by
  unfold pEnt pList
  simp only [h1, h2, h3, h4, Int.toNat_natCast, h5]

/-- A row of entries of the call's own, their edits' and their deltas' rows too. -/
def FitE (w : World) (base : Nat) (v : Ev) (e : En) : Prop := v.cl = e.cl ∧ v.sq = e.sq ∧ lyC.Own w base v.ev e.ed ∧ ∃ vs, OwnS w base v.dv vs e.dl
structure OwnE (w : World) (base : Nat) (v : Value) (vs : List Ev) (es : List En) : Prop where
  row : lyE.Own w base v vs
  len : vs.length = es.length
  fit : ∀ (i : Nat) x e, vs[i]? = some x → es[i]? = some e → FitE w base x e
theorem OwnE.nil (w : World) (base : Nat) : OwnE w base (.slice none 0 0) [] [] := ⟨Ly.Own.nil w base, rfl, fun i x s h => by simp at h⟩
theorem FitE.below {w w' : World} {base : Nat} {v : Ev} {e : En} (h : FitE w base v e) (hb : Below w.heap.size w w') : FitE w' base v e := by
  obtain ⟨a1, a2, a3, vs, a4⟩ := h
  exact ⟨a1, a2, a3.below hb, vs, a4.below hb⟩
theorem OwnE.below {w w' : World} {base : Nat} {v : Value} {vs : List Ev} {es : List En} (h : OwnE w base v vs es) (hb : Below w.heap.size w w') : OwnE w' base v vs es :=
  ⟨h.row.below hb, h.len, fun i x s hx hs => (h.fit i x s hx hs).below hb⟩
theorem FitE.kept {w w' : World} {base g : Nat} {v : Ev} {m : En} {c : Array Value} {e : TypeId} (h : FitE w base v m) (hg : w.grownBy w' (some g)) (hc : w.heap[g]? = some (.cells c e (0, 0))) (h2 : e ≠ 48) (h3 : e ≠ 51) (h4 : e ≠ 3) : FitE w' base v m := by
  obtain ⟨a1, a2, a3, vs, a4⟩ := h
  exact ⟨a1, a2, compsOwn_kept a3 hg hc h2, vs, a4.kept hg hc h3 h4⟩
theorem OwnE.kept {w w' : World} {base g : Nat} {v : Value} {vs : List Ev} {es : List En} {c : Array Value} {e : TypeId} (h : OwnE w base v vs es) (hg : w.grownBy w' (some g)) (hc : w.heap[g]? = some (.cells c e (0, 0))) (h1 : e ≠ 54) (h2 : e ≠ 48) (h3 : e ≠ 51) (h4 : e ≠ 3) : OwnE w' base v vs es :=
  ⟨h.row.kept hg (fun k hk => by
      obtain ⟨cur, hcur⟩ := h.row.obj hk
      intro e0; cases e0
      exact type_ne hc hcur h1 rfl), h.len, fun i x s hx hs => (h.fit i x s hx hs).kept hg hc h2 h3 h4⟩
theorem FitE.mono {w : World} {base base' : Nat} {v : Ev} {m : En} (h : FitE w base v m) (hb : base' ≤ base) : FitE w base' v m := by
  obtain ⟨a1, a2, a3, vs, a4⟩ := h
  exact ⟨a1, a2, a3.mono hb, vs, a4.mono hb⟩
/-- What is no row of entries stays, where a row of entries is written. -/
theorem FitE.past {w w' : World} {base base2 : Nat} {v : Ev} {m : En} {nv : Value} {vs : List Ev} (h : FitE w base v m) (ho : lyE.Own w base2 nv vs) (hg : w.grownBy w' nv.ownBlock) : FitE w' base v m := by
  cases hb : nv.ownBlock with
  | none =>
    rw [hb] at hg
    exact h.below ⟨hg.os, hg.tape, hg.output, hg.size, fun k hk => hg.block k hk (by simp)⟩
  | some g =>
    rw [hb] at hg
    obtain ⟨c, hc⟩ := ho.obj hb
    exact h.kept hg hc (by decide) (by decide) (by decide)
theorem OwnE.pushK {W w' : World} {base : Nat} {nv nv' : Value} {vs : List Ev} {es : List En} (h : OwnE W base nv vs es) (hg : W.grownBy w' nv.ownBlock) (v : Ev) (e : En) (hv : FitE W base v e) (ho : lyE.Own w' base nv' (vs ++ [v])) : OwnE w' base nv' (vs ++ [v]) (es ++ [e]) := by
  have hl := h.len
  refine ⟨ho, by rw [List.length_append, List.length_append, hl]; rfl, fun i x m hx hm => ?_⟩
  by_cases hi : i < vs.length
  · rw [List.getElem?_append_left hi] at hx
    rw [List.getElem?_append_left (by omega)] at hm
    exact (h.fit i x m hx hm).past h.row hg
  · have hi2 : i = vs.length := by have := (List.getElem?_eq_some_iff.1 hx).1; simp at this; omega
    subst hi2
    rw [List.getElem?_append_right (Nat.le_refl _), Nat.sub_self] at hx
    rw [List.getElem?_append_right (by omega), hl, Nat.sub_self] at hm
    simp at hx hm
    subst hx; subst hm
    exact hv.past h.row hg
theorem OwnE.read {w : World} {base n cap : Nat} {p : Option Addr} {vs : List Ev} {es : List En} (h : OwnE w base (.slice p n cap) vs es) : EntsR w p es := fun i e hi => by
  have hl : i < vs.length := by rw [h.len]; exact (List.getElem?_eq_some_iff.1 hi).1
  have hv := List.getElem?_eq_getElem hl
  obtain ⟨a, b, c, us, d⟩ := h.fit i _ e hv hi
  obtain ⟨g, o, hp, hat⟩ := h.row.row i _ hv
  generalize vs[i] = v at *
  obtain ⟨vcl, vsq, vep, ven, vec, vdp, vdn, vdc⟩ := v
  unfold Ev.ev at c
  unfold Ev.dv at d
  dsimp only at a b c d
  obtain ⟨kp, kc, hkv⟩ := c.form
  cases hkv
  obtain ⟨kp2, kc2, hkv2⟩ := d.row.form
  cases hkv2
  have hlen : us.length = e.dl.length := d.len
  subst a b
  refine ⟨g, o, vep, vec, vdp, vdc, hp, ?_, own_rowC c, d.read⟩
  rw [← hlen]
  exact hat

end Go.Proofs.YtjmfjlffcopnnaaGreatDoor
