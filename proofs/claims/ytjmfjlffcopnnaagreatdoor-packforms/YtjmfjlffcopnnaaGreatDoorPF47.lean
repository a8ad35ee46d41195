/-
  Qc, Qo, in one text. Conditions: as each theorem's premises say.
-/
import Derived.Test.YtjmfjlffcopnnaaGreatDoorPF46
import Derived.Test.YtjmfjlffcopnnaaGreatDoorPF22
import Derived.Test.YtjmfjlffcopnnaaGreatDoorPF23
namespace Go.Proofs.YtjmfjlffcopnnaaGreatDoor
open Go.RowKit
open Go.Proofs.YtjmfjlffcopnnaaGreatDoor.K (C)

def QCmp (tb : Nat) (z : ByteArray) (b : Bool) (w : World) (en : Ending) (w' : World) : Prop := ∃ (c : C) (z' : ByteArray) (b' : Bool), en = .returned (.agg #[.int .i64 c.k, .int .i64 c.n, .string c.t]) ∧ Took QCp compC (bytesOf z) b c (bytesOf z') b' ∧ TkP w' tb z' b' ∧ w.grownBy w' (some tb)
set_option maxRecDepth 100000 in
set_option maxHeartbeats 4000000 in
theorem qcmp_any (z : ByteArray) (tb : Nat) (b : Bool) (w : World) (h : TkP w tb z b) : Calls Tryz.prog 77 #[.pointer (some ⟨tb, 0, none⟩)] w (QCmp tb z b w) := by
  have TT := Lib.hid h
  clear h
  go_enter Tryz.func77, Tryz.ntmps77
  go_upto_region 1 with fail
  have R0 : Hid ((w.alloc (.cells #[.int .i64 0, .int .i64 0, .string ⟨#[]⟩] 48)).heap[w.heap.size]? = some (.cells #[.int .i64 0, .int .i64 0, .string ⟨#[]⟩] 48 (0, 0))) := Lib.hid (heap_alloc_new w _)
  have T0 := Lib.hid (TT.out.kept (World.grownBy_alloc w (.cells #[.int .i64 0, .int .i64 0, .string ⟨#[]⟩] 48) none) (fun g e => by cases e))
  have W0 : Hid (w.grownBy (w.alloc (.cells #[.int .i64 0, .int .i64 0, .string ⟨#[]⟩] 48)) (some tb)) := Lib.hid (World.grownBy_alloc w _ _)
  have S0 : Hid (w.heap.size < (w.alloc (.cells #[.int .i64 0, .int .i64 0, .string ⟨#[]⟩] 48)).heap.size) := Lib.hid (by simp)
  have NR : Hid (w.heap.size ≠ tb) := Lib.hid (TT.out.out_of (Nat.le_refl _))
  clear TT
  generalize w.alloc (.cells #[.int .i64 0, .int .i64 0, .string ⟨#[]⟩] 48) = w0 at R0 T0 W0 S0 ⊢
  generalize hrb : w.heap.size = rb at R0 NR S0 ⊢
  have RB := Lib.hid hrb
  clear hrb
  have D : Hid (Calls Tryz.prog 74 #[.pointer (some ⟨tb, 0, none⟩), .string ⟨#[107, 112, 99]⟩] w0 (QLet ⟨#[107, 112, 99]⟩ tb z b w0)) := Lib.hid (qlet_any ⟨#[107, 112, 99]⟩ (by decide) z tb b w0 T0.out)
  go_upto_region 2 with (go_at_call 74; refine D.out.mono ?_; rintro e w1 ⟨k, z1, b1, rfl, hk3, hk, hT, hg⟩; have K1 : Hid (Took (LeP lsC) (letC lsC) (bytesOf z) b (k : Int) (bytesOf z1) b1) := Lib.hid hk; have K3 : Hid (k < 3) := Lib.hid hk3; have T1 := Lib.hid hT; have G1 := Lib.hid hg; clear hk3 hk hT hg)
  clear D
  have kc0 := K3.out
  have X1 : Hid ((w1.alloc (.cells #[.int .i64 k, .int .i64 0, .string ⟨#[]⟩] 48)).heap[w1.heap.size]? = some (.cells #[.int .i64 k, .int .i64 0, .string ⟨#[]⟩] 48 (0, 0))) := Lib.hid (heap_alloc_new w1 _)
  have T2 := Lib.hid (T1.out.kept (World.grownBy_alloc w1 (.cells #[.int .i64 k, .int .i64 0, .string ⟨#[]⟩] 48) none) (fun g e => by cases e))
  have G2 : Hid (w0.grownBy (w1.alloc (.cells #[.int .i64 k, .int .i64 0, .string ⟨#[]⟩] 48)) (some tb)) := Lib.hid (grown_trans G1.out (World.grownBy_alloc w1 _ (some tb)) (fun _ e => .inl e))
  have NX : Hid (w1.heap.size ≠ tb) := Lib.hid (T1.out.out_of (Nat.le_refl _))
  have SX : Hid (rb < w1.heap.size) := Lib.hid (Nat.lt_of_lt_of_le S0.out G1.out.size)
  clear T1 G1
  generalize w1.alloc (.cells #[.int .i64 k, .int .i64 0, .string ⟨#[]⟩] 48) = w2 at X1 T2 G2 ⊢
  generalize w1.heap.size = xb at X1 NX SX ⊢
  have x0 := (obj_cells X1.out).1 0 _ rfl
  by_cases q : k = 1
  · subst q
    have ON := Lib.hid (qstr_any z1 tb b1 w2 T2.out)
    go_upto_region 5 with (go_at_call 81; refine ON.out.mono ?_; rintro e w3 ⟨t, z3, b3, rfl, hk, hT, hg⟩; have K4 := Lib.hid hk; have T3 := Lib.hid hT; have G3 := Lib.hid hg; have X2 := Lib.hid (box_keptP X1.out hg NX.out); have y2 := (obj_cells X2.out).1 2 _ rfl; have yf := (obj_cells X2.out).2.1 2; clear hk hT hg)
    have GG : Hid (w0.grownBy w3 (some tb)) := Lib.hid (grown_trans G2.out G3.out (fun _ e => .inl e))
    have R1 : Hid (w3.heap[rb]? = _) := Lib.hid (box_keptP R0.out GG.out NR.out)
    have gx := Lib.hid (set_grown w3 xb 2 (.string t))
    have X3 : Hid ((w3.setCell ⟨xb, 2, none⟩ (.string t)).heap[xb]? = some (.cells #[.int .i64 (1 : Nat), .int .i64 0, .string t] 48 (0, 0))) := Lib.hid (by rw [heap_setCell_at X2.out]; rfl)
    have R2 : Hid ((w3.setCell ⟨xb, 2, none⟩ (.string t)).heap[rb]? = _) := Lib.hid (box_keptP R1.out gx.out (by have := SX.out; omega))
    have T4 : Hid (TkP (w3.setCell ⟨xb, 2, none⟩ (.string t)) tb z3 b3) := Lib.hid (T3.out.kept gx.out (fun g e => by cases e; exact NX.out))
    have GW : Hid (w.grownBy (w3.setCell ⟨xb, 2, none⟩ (.string t)) (some tb)) := Lib.hid (grown_trans (grown_trans W0.out GG.out (fun _ e => .inl e)) gx.out (fun g e => by cases e; exact .inr (by have := SX.out; have := RB.out; omega)))
    clear x0 y2 yf X2 R1 GG G3 T3 G2 X1 R0 T0 W0 S0 T2 ON gx
    generalize w3.setCell ⟨xb, 2, none⟩ (.string t) = w4 at X3 R2 T4 GW ⊢
    have x0 := (obj_cells X3.out).1 0 _ rfl
    have x1 := (obj_cells X3.out).1 1 _ rfl
    have x2 := (obj_cells X3.out).1 2 _ rfl
    have r0 := (obj_cells R2.out).1 0 _ rfl
    have r1 := (obj_cells R2.out).1 1 _ rfl
    have r2 := (obj_cells R2.out).1 2 _ rfl
    have rf := (obj_cells R2.out).2.1
    go_wp2_with fail
    refine bodyPost_ret (v := .agg #[.int .i64 1, .int .i64 0, .string t]) (by rw [results_cell1 rfl]; go_simp) rfl ?_
    have g2 := setAll_one w4 rb 0 [.int .i64 1, .int .i64 0, .string t]
    exact ⟨⟨1, 0, t⟩, z3, b3, rfl, took_put K1.out K4.out, T4.out.kept g2 (fun g e => by cases e; exact NR.out), grown_trans GW.out g2 (fun g e => by cases e; exact .inr (by rw [RB.out]; exact Nat.le_refl _))⟩
  · have kq : ((k : Int) == 1) = false := by rw [beq_eq_false_iff_ne]; omega
    have k02 : Hid ((k : Int) = 0 ∨ (k : Int) = 2) := Lib.hid (by omega)
    have Q := Lib.hid q
    clear q
    have ON := Lib.hid (qnum_any z1 tb b1 w2 T2.out)
    go_upto_region 5 with (go_at_call 75; refine ON.out.mono ?_; rintro e w3 ⟨t, z3, b3, rfl, hn, hk, hT, hg⟩; have K4 := Lib.hid hk; have T3 := Lib.hid hT; have G3 := Lib.hid hg; have X2 := Lib.hid (box_keptP X1.out hg NX.out); have y2 := (obj_cells X2.out).1 1 _ rfl; have yf := (obj_cells X2.out).2.1 1; clear hn hk hT hg)
    have GG : Hid (w0.grownBy w3 (some tb)) := Lib.hid (grown_trans G2.out G3.out (fun _ e => .inl e))
    have R1 : Hid (w3.heap[rb]? = _) := Lib.hid (box_keptP R0.out GG.out NR.out)
    have gx := Lib.hid (set_grown w3 xb 1 (.int .i64 t))
    have X3 : Hid ((w3.setCell ⟨xb, 1, none⟩ (.int .i64 t)).heap[xb]? = some (.cells #[.int .i64 k, .int .i64 t, .string ⟨#[]⟩] 48 (0, 0))) := Lib.hid (by rw [heap_setCell_at X2.out]; rfl)
    have R2 : Hid ((w3.setCell ⟨xb, 1, none⟩ (.int .i64 t)).heap[rb]? = _) := Lib.hid (box_keptP R1.out gx.out (by have := SX.out; omega))
    have T4 : Hid (TkP (w3.setCell ⟨xb, 1, none⟩ (.int .i64 t)) tb z3 b3) := Lib.hid (T3.out.kept gx.out (fun g e => by cases e; exact NX.out))
    have GW : Hid (w.grownBy (w3.setCell ⟨xb, 1, none⟩ (.int .i64 t)) (some tb)) := Lib.hid (grown_trans (grown_trans W0.out GG.out (fun _ e => .inl e)) gx.out (fun g e => by cases e; exact .inr (by have := SX.out; have := RB.out; omega)))
    clear x0 y2 yf X2 R1 GG G3 T3 G2 X1 R0 T0 W0 S0 T2 ON gx
    generalize w3.setCell ⟨xb, 1, none⟩ (.int .i64 t) = w4 at X3 R2 T4 GW ⊢
    have x0 := (obj_cells X3.out).1 0 _ rfl
    have x1 := (obj_cells X3.out).1 1 _ rfl
    have x2 := (obj_cells X3.out).1 2 _ rfl
    have r0 := (obj_cells R2.out).1 0 _ rfl
    have r1 := (obj_cells R2.out).1 1 _ rfl
    have r2 := (obj_cells R2.out).1 2 _ rfl
    have rf := (obj_cells R2.out).2.1
    go_wp2_with fail
    refine bodyPost_ret (v := .agg #[.int .i64 k, .int .i64 t, .string ⟨#[]⟩]) (by rw [results_cell1 rfl]; go_simp) rfl ?_
    have g2 := setAll_one w4 rb 0 [.int .i64 k, .int .i64 t, .string ⟨#[]⟩]
    exact ⟨⟨k, t, ⟨#[]⟩⟩, z3, b3, rfl, took_plain k02.out K1.out K4.out, T4.out.kept g2 (fun g e => by cases e; exact NR.out), grown_trans GW.out g2 (fun g e => by cases e; exact .inr (by rw [RB.out]; exact Nat.le_refl _))⟩

end Go.Proofs.YtjmfjlffcopnnaaGreatDoor

namespace Go.Proofs.YtjmfjlffcopnnaaGreatDoor
open Go.RowKit
open Go.Proofs.YtjmfjlffcopnnaaGreatDoor.K (C)

theorem alloc_below (w : World) (o : Obj) : Below w.heap.size w (w.alloc o) := below1 (Below.refl _ _) (Nat.le_refl _) _
/-- A row of steps of the call's own, their children's rows all apart. -/
structure OwnSA (w : World) (base : Nat) (v : Value) (vs : List Sv) (ss : List St) : Prop where
  own : OwnS w base v vs ss
  apart : ∀ (i j : Nat) x y g, vs[i]? = some x → vs[j]? = some y → i ≠ j → x.kv.ownBlock = some g → y.kv.ownBlock ≠ some g
theorem OwnSA.nil (w : World) (base : Nat) : OwnSA w base (.slice none 0 0) [] [] := ⟨OwnS.nil w base, fun i j x y g h => by simp at h⟩
theorem OwnSA.below {w w' : World} {base : Nat} {v : Value} {vs : List Sv} {ss : List St} (h : OwnSA w base v vs ss) (hb : Below w.heap.size w w') : OwnSA w' base v vs ss := ⟨h.own.below hb, h.apart⟩
theorem OwnSA.kept {w w' : World} {base g : Nat} {v : Value} {vs : List Sv} {ss : List St} {c : Array Value} {e : TypeId} (h : OwnSA w base v vs ss) (hg : w.grownBy w' (some g)) (hc : w.heap[g]? = some (.cells c e (0, 0))) (h1 : e ≠ 51) (h2 : e ≠ 3) : OwnSA w' base v vs ss := ⟨h.own.kept hg hc h1 h2, h.apart⟩
theorem OwnSA.mono {w : World} {base base' : Nat} {v : Value} {vs : List Sv} {ss : List St} (h : OwnSA w base v vs ss) (hb : base' ≤ base) : OwnSA w base' v vs ss := ⟨h.own.mono hb, h.apart⟩
theorem OwnSA.kidlt {w : World} {base : Nat} {v : Value} {vs : List Sv} {ss : List St} (h : OwnSA w base v vs ss) {i g : Nat} {x : Sv} (hx : vs[i]? = some x) (hg : x.kv.ownBlock = some g) : base ≤ g ∧ g < w.heap.size := by
  obtain ⟨s, hs⟩ : ∃ s, ss[i]? = some s := ⟨_, List.getElem?_eq_getElem (by rw [← h.own.len]; exact (List.getElem?_eq_some_iff.1 hx).1)⟩
  exact (h.own.fit i x s hx hs).2.2.2.2.2.lt hg
theorem apart_snoc {α : Type} {K : α → Value} {vs : List α} {v : α} {lo : Nat} (h : ∀ (i j : Nat) x y g, vs[i]? = some x → vs[j]? = some y → i ≠ j → (K x).ownBlock = some g → (K y).ownBlock ≠ some g) (h1 : ∀ (i : Nat) x g, vs[i]? = some x → (K x).ownBlock = some g → g < lo) (h2 : ∀ g, (K v).ownBlock = some g → lo ≤ g) : ∀ (i j : Nat) x y g, (vs ++ [v])[i]? = some x → (vs ++ [v])[j]? = some y → i ≠ j → (K x).ownBlock = some g → (K y).ownBlock ≠ some g := by
  have key : ∀ (i : Nat) x, (vs ++ [v])[i]? = some x → (i < vs.length ∧ vs[i]? = some x) ∨ (i = vs.length ∧ x = v) := fun i x hx => by
    by_cases hi : i < vs.length
    · rw [List.getElem?_append_left hi] at hx; exact .inl ⟨hi, hx⟩
    · have hi2 : i = vs.length := by have := (List.getElem?_eq_some_iff.1 hx).1; simp at this; omega
      subst hi2
      rw [List.getElem?_append_right (Nat.le_refl _), Nat.sub_self] at hx
      simp at hx
      exact .inr ⟨rfl, hx.symm⟩
  intro i j x y g hx hy hij hg hg2
  rcases key i x hx with ⟨a1, a2⟩ | ⟨a1, rfl⟩ <;> rcases key j y hy with ⟨b1, b2⟩ | ⟨b1, rfl⟩
  · exact h i j x y g a2 b2 hij hg hg2
  · have := h1 i x g a2 hg; have := h2 g hg2; omega
  · have := h1 j y g b2 hg2; have := h2 g hg; omega
  · omega
theorem OwnSA.pushT {wr w2 w5 : World} {base tb : Nat} {nv nv' : Value} {vs : List Sv} {ss : List St} {ct : Array Value} {o : Obj} {v : Sv} {s : St} (h : OwnSA wr base nv vs ss) (ht : wr.heap[tb]? = some (.cells ct 70 (0, 0))) (hb : base ≤ wr.heap.size) (hg : wr.grownBy w2 (some tb)) (hv : FitS w2 wr.heap.size v s) (hg5 : (w2.alloc o).grownBy w5 nv.ownBlock) (ho : lyS.Own w5 base nv' (vs ++ [v])) : OwnSA w5 base nv' (vs ++ [v]) (ss ++ [s]) := by
  have a := (h.own.kept hg ht (by decide) (by decide)).below (alloc_below w2 o)
  obtain ⟨a1, a2, a3, a4, a5, a6⟩ := hv
  refine ⟨a.pushK hg5 v s ⟨a1, a2, a3, a4, a5, (a6.below (alloc_below w2 o)).mono hb⟩ ho, ?_⟩
  exact apart_snoc (K := Sv.kv) h.apart (fun i x g hx hg => (h.kidlt hx hg).2) (fun g hg => (a6.lt hg).1)
theorem OwnSA.sp {w : World} {base n cap : Nat} {p : Option Addr} {vs : List Sv} {ss : List St} (h : OwnSA w base (.slice p n cap) vs ss) : SpS w base (.slice p n cap) n vs := by
  have hl : vs.length = n := by
    obtain ⟨p', c', e⟩ := h.own.row.form
    cases e; rfl
  exact ⟨h.own.row, hl, fun i x hx => ⟨_, (h.own.fit i x _ hx (List.getElem?_eq_getElem (by rw [← h.own.len]; exact (List.getElem?_eq_some_iff.1 hx).1))).2.2.2.2.2⟩, h.apart⟩
theorem OwnSA.kn {w : World} {base : Nat} {v : Value} {vs : List Sv} {ss : List St} (h : OwnSA w base v vs ss) {x : Sv} (hx : x ∈ vs) : ∃ s ∈ ss, x.kn = s.kids.length := by
  obtain ⟨i, hi⟩ := List.mem_iff_getElem?.1 hx
  obtain ⟨s, hs⟩ : ∃ s, ss[i]? = some s := ⟨_, List.getElem?_eq_getElem (by rw [← h.own.len]; exact (List.getElem?_eq_some_iff.1 hi).1)⟩
  obtain ⟨p, c, e⟩ := (h.own.fit i x s hi hs).2.2.2.2.2.form
  exact ⟨s, List.mem_of_getElem? hs, (Value.slice.inj e).2.1⟩
theorem OwnT.pushT {wr w2 w5 : World} {base tb : Nat} {nv nv' : Value} {vs : List Nv} {ns : List Nd} {ct : Array Value} {o : Obj} {v : Nv} {m : Nd} (h : OwnT wr base nv vs ns) (ht : wr.heap[tb]? = some (.cells ct 70 (0, 0))) (hb : base ≤ wr.heap.size) (hg : wr.grownBy w2 (some tb)) (hv : Fits w2 wr.heap.size v m) (hg5 : (w2.alloc o).grownBy w5 nv.ownBlock) (ho : lyN.Own w5 base nv' (vs ++ [v])) : OwnT w5 base nv' (vs ++ [v]) (ns ++ [m]) := by
  have a := (h.kept hg ht (by decide) (by decide)).below (alloc_below w2 o)
  obtain ⟨a1, a2, a3, a4, a6⟩ := hv
  refine a.pushK hg5 v m ⟨a1, a2, a3, a4, (a6.below (alloc_below w2 o)).mono hb⟩ (fun i x g hx hg e => ?_) ho
  have h1 := (a6.lt (g := g) e).1
  obtain ⟨n, hn⟩ : ∃ n, ns[i]? = some n := ⟨_, List.getElem?_eq_getElem (by rw [← h.len]; exact (List.getElem?_eq_some_iff.1 hx).1)⟩
  have h2 := ((h.fit i x n hx hn).2.2.2.2.lt hg).2
  omega

/-- A row of entries of the call's own; each entry's blocks are its own. -/
structure OwnX (w : World) (base : Nat) (v : Value) (vs : List Ev) (es : List En) : Prop where
  own : OwnE w base v vs es
  sp : ∃ B : Nat → Nat → Prop, (∀ (j : Nat) x g, vs[j]? = some x → x.ev.ownBlock = some g → B j g) ∧ (∀ (j : Nat) x e, vs[j]? = some x → es[j]? = some e → ∃ us, OwnSA w base x.dv us e.dl ∧ (∀ y ∈ us, ∀ g, y.kv.ownBlock = some g → B j g) ∧ ∀ g, x.dv.ownBlock = some g → B j g) ∧ (∀ (j k g : Nat), j ≠ k → B j g → ¬ B k g) ∧ (∀ (j g : Nat), B j g → base ≤ g ∧ g < w.heap.size) ∧ ∀ (j g : Nat), v.ownBlock = some g → ¬ B j g
theorem OwnX.nil (w : World) (base : Nat) : OwnX w base (.slice none 0 0) [] [] :=
  ⟨OwnE.nil w base, fun _ _ => False, fun j x g h => by simp at h, fun j x e h => by simp at h, fun _ _ _ _ h => h.elim, fun _ _ h => h.elim, fun _ _ _ h => h⟩
theorem OwnX.below {w w' : World} {base : Nat} {v : Value} {vs : List Ev} {es : List En} (h : OwnX w base v vs es) (hb : Below w.heap.size w w') : OwnX w' base v vs es := by
  obtain ⟨h1, B, h2, h3, h4, h5, h6⟩ := h
  refine ⟨h1.below hb, B, h2, fun j x e hx he => ?_, h4, fun j g hg => ⟨(h5 j g hg).1, Nat.lt_of_lt_of_le (h5 j g hg).2 hb.size⟩, h6⟩
  obtain ⟨us, a1, a2, a3⟩ := h3 j x e hx he
  exact ⟨us, a1.below hb, a2, a3⟩
theorem OwnX.kept {w w' : World} {base g : Nat} {v : Value} {vs : List Ev} {es : List En} {c : Array Value} {e : TypeId} (h : OwnX w base v vs es) (hg : w.grownBy w' (some g)) (hc : w.heap[g]? = some (.cells c e (0, 0))) (e1 : e ≠ 54) (e2 : e ≠ 48) (e3 : e ≠ 51) (e4 : e ≠ 3) : OwnX w' base v vs es := by
  obtain ⟨h1, B, h2, h3, h4, h5, h6⟩ := h
  refine ⟨h1.kept hg hc e1 e2 e3 e4, B, h2, fun j x e hx he => ?_, h4, fun j k hk => ⟨(h5 j k hk).1, Nat.lt_of_lt_of_le (h5 j k hk).2 hg.size⟩, h6⟩
  obtain ⟨us, a1, a2, a3⟩ := h3 j x e hx he
  exact ⟨us, a1.kept hg hc e3 e4, a2, a3⟩
theorem OwnX.mono {w : World} {base base' : Nat} {v : Value} {vs : List Ev} {es : List En} (h : OwnX w base v vs es) (hb : base' ≤ base) : OwnX w base' v vs es := by
  obtain ⟨h1, B, h2, h3, h4, h5, h6⟩ := h
  refine ⟨h1.mono hb, B, h2, fun j x e hx he => ?_, h4, fun j g hg => ⟨Nat.le_trans hb (h5 j g hg).1, (h5 j g hg).2⟩, h6⟩
  obtain ⟨us, a1, a2, a3⟩ := h3 j x e hx he
  exact ⟨us, a1.mono hb, a2, a3⟩
theorem snoc_cases {α : Type} {vs : List α} {v x : α} {i : Nat} (hx : (vs ++ [v])[i]? = some x) : (i < vs.length ∧ vs[i]? = some x) ∨ (i = vs.length ∧ x = v) := by
  by_cases hi : i < vs.length
  · rw [List.getElem?_append_left hi] at hx; exact .inl ⟨hi, hx⟩
  · have hi2 : i = vs.length := by have := (List.getElem?_eq_some_iff.1 hx).1; simp at this; omega
    subst hi2
    rw [List.getElem?_append_right (Nat.le_refl _), Nat.sub_self] at hx
    simp at hx
    exact .inr ⟨rfl, hx.symm⟩
/-- Steps' rows of the call's own stay where a row of entries is written. -/
theorem OwnSA.past {w w' : World} {base base2 : Nat} {v nv : Value} {us : List Sv} {ss : List St} {vs : List Ev} (h : OwnSA w base v us ss) (ho : lyE.Own w base2 nv vs) (hg : w.grownBy w' nv.ownBlock) : OwnSA w' base v us ss := by
  cases hb : nv.ownBlock with
  | none =>
    rw [hb] at hg
    exact h.below ⟨hg.os, hg.tape, hg.output, hg.size, fun k hk => hg.block k hk (by simp)⟩
  | some g =>
    rw [hb] at hg
    obtain ⟨c, hc⟩ := ho.obj hb
    exact h.kept hg hc (by decide) (by decide)
theorem OwnX.pushT {wr w2 w5 : World} {base tb : Nat} {nv nv' : Value} {vs : List Ev} {es : List En} {ct : Array Value} {o : Obj} {v : Ev} {e : En} {us : List Sv} (h : OwnX wr base nv vs es) (ht : wr.heap[tb]? = some (.cells ct 70 (0, 0))) (hb : base ≤ wr.heap.size) (hg : wr.grownBy w2 (some tb)) (hcl : v.cl = e.cl) (hsq : v.sq = e.sq) (he : lyC.Own w2 wr.heap.size v.ev e.ed) (hd : OwnSA w2 wr.heap.size v.dv us e.dl) (hbl : nv'.ownBlock = nv.ownBlock ∨ nv'.ownBlock = some (w2.alloc o).heap.size) (hg5 : (w2.alloc o).grownBy w5 nv.ownBlock) (ho : lyE.Own w5 base nv' (vs ++ [v])) : OwnX w5 base nv' (vs ++ [v]) (es ++ [e]) := by
  have a := (h.kept hg ht (by decide) (by decide) (by decide) (by decide)).below (alloc_below w2 o)
  have ev := (he.below (alloc_below w2 o)).mono hb
  have dv := (hd.below (alloc_below w2 o)).mono hb
  have own := a.own.pushK hg5 v e ⟨hcl, hsq, ev, us, dv.own⟩ ho
  have ar := a.own.row
  have hr := h.own.row
  clear a
  obtain ⟨_, B0, c1, c2, c3, c4, c5⟩ := h
  have hl : vs.length = es.length := by have := own.len; simp at this; exact this
  have hal : (w2.alloc o).heap.size = w2.heap.size + 1 := by simp
  refine ⟨own, fun j g => (j < vs.length ∧ B0 j g) ∨ (j = vs.length ∧ wr.heap.size ≤ g ∧ g < w2.heap.size), ?_, ?_, ?_, ?_, ?_⟩
  · intro j x g hx hxg
    rcases snoc_cases hx with ⟨a1, a2⟩ | ⟨a1, rfl⟩
    · exact .inl ⟨a1, c1 j x g a2 hxg⟩
    · exact .inr ⟨a1, he.lt hxg⟩
  · intro j x e' hx he'
    rcases snoc_cases hx with ⟨a1, a2⟩ | ⟨a1, rfl⟩
    · rw [List.getElem?_append_left (by omega)] at he'
      obtain ⟨us', d1, d2, d3⟩ := c2 j x e' a2 he'
      have d1' := ((d1.kept hg ht (by decide) (by decide)).below (alloc_below w2 o)).past ar hg5
      exact ⟨us', d1', fun y hy g hyg => .inl ⟨a1, d2 y hy g hyg⟩, fun g hxg => .inl ⟨a1, d3 g hxg⟩⟩
    · rw [a1, hl, List.getElem?_append_right (Nat.le_refl _), Nat.sub_self] at he'
      simp at he'
      subst he'
      refine ⟨us, dv.past ar hg5, fun y hy g hyg => .inr ⟨a1, ?_⟩, fun g hxg => .inr ⟨a1, hd.own.row.lt hxg⟩⟩
      obtain ⟨i, hi⟩ := List.mem_iff_getElem?.1 hy
      exact hd.kidlt hi hyg
  · rintro j k g hjk (⟨d1, d2⟩ | ⟨d1, d2⟩) (⟨e1, e2⟩ | ⟨e1, e2⟩)
    · exact c3 j k g hjk d2 e2
    · have := (c4 j g d2).2; omega
    · have := (c4 k g e2).2; omega
    · omega
  · have hs := hg5.size
    have hs2 := hg.size
    rintro j g (⟨d1, d2⟩ | ⟨d1, d2⟩)
    · have := c4 j g d2; omega
    · omega
  · rintro j g hgn (⟨d1, d2⟩ | ⟨d1, d2⟩)
    · rcases hbl with hbl | hbl
      · rw [hbl] at hgn; exact c5 j g hgn d2
      · rw [hbl] at hgn; cases hgn; have := (c4 j _ d2).2; have := hg.size; omega
    · rcases hbl with hbl | hbl
      · rw [hbl] at hgn
        have := (hr.lt hgn).2
        omega
      · rw [hbl] at hgn; cases hgn; omega

end Go.Proofs.YtjmfjlffcopnnaaGreatDoor
