/-
  The program's taker: a message: the walk (made by tools/genqg.py). Conditions: as each theorem's premises say.
-/
import Derived.Test.YtjmfjlffcopnnaaGreatDoorPF48
namespace Go.Proofs.YtjmfjlffcopnnaaGreatDoor
open Go.RowKit
open Go.Proofs.YtjmfjlffcopnnaaGreatDoor.K (C)

/-- A message that was taken, its rows of the call's own. -/
structure QOwn (w : World) (base : Nat) (m : Ms) (q : Mq) : Prop where
  ed : lyC.Own w base (.slice q.ep m.ed.length q.ec) m.ed
  es : ∃ vs, OwnX w base (.slice q.sp m.es.length q.sc) vs m.es
  ns : ∃ vs, OwnT w base (.slice q.np m.ns.length q.nc) vs m.ns
def QMsg (tb : Nat) (z : ByteArray) (b : Bool) (w : World) (en : Ending) (w' : World) : Prop := ∃ (m : Ms) (q : Mq) (z' : ByteArray) (b' : Bool), en = .returned (msV m q) ∧ Took QMs msgC (bytesOf z) b m (bytesOf z') b' ∧ QOwn w' w.heap.size m q ∧ TkP w' tb z' b' ∧ w.grownBy w' (some tb)
theorem QOwn.kept {w w' : World} {base g : Nat} {m : Ms} {q : Mq} {c : Array Value} {e : TypeId} (h : QOwn w base m q) (hg : w.grownBy w' (some g)) (hc : w.heap[g]? = some (.cells c e (0, 0))) (h1 : e ≠ 54) (h2 : e ≠ 48) (h3 : e ≠ 51) (h4 : e ≠ 3) (h5 : e ≠ 109) : QOwn w' base m q := by
  obtain ⟨a1, ⟨es, a2⟩, ns, a3⟩ := h
  exact ⟨compsOwn_kept a1 hg hc h2, ⟨es, a2.kept hg hc h1 h2 h3 h4⟩, ns, a3.kept hg hc h5 h4⟩
theorem qmsg_fin {tb rb : Nat} {z zc : ByteArray} {b bc : Bool} {w u : World} {m : Ms} {q : Mq} {c : Array Value} (us : List Value) (R : u.heap[rb]? = some (.cells c 28 (0, 0))) (hk : Took QMs msgC (bytesOf z) b m (bytesOf zc) bc) (ho : QOwn u w.heap.size m q) (T : TkP u tb zc bc) (G : w.grownBy u (some tb)) (hr : w.heap.size = rb) (hne : rb ≠ tb) : QMsg tb z b w (.returned (msV m q)) (setAll u rb 0 us) := by
  have g2 := setAll_one u rb 0 us
  exact ⟨m, q, zc, bc, rfl, hk, ho.kept g2 R (by decide) (by decide) (by decide) (by decide) (by decide), T.kept g2 (fun g e => by cases e; exact hne), grown_trans G g2 (fun g e => by cases e; exact .inr (by rw [hr]; exact Nat.le_refl _))⟩
set_option maxRecDepth 100000 in
set_option maxHeartbeats 8000000 in
theorem qmsg_any (z : ByteArray) (tb : Nat) (b : Bool) (w : World) (h : TkP w tb z b) : Calls Tryz.prog 28 #[.pointer (some ⟨tb, 0, none⟩)] w (QMsg tb z b w) := by
  have TT := Lib.hid h
  clear h
  go_enter Tryz.func28, Tryz.ntmps28
  go_upto_region 1 with fail
  have R0 : Hid ((w.alloc (.cells #[.int .i64 0, .int .i64 0, .int .i64 0, .int .i64 0, .int .i64 0, .int .i64 0, .bool false, .slice none 0 0, .slice none 0 0, .string ⟨#[]⟩, .int .i64 0, .int .i64 0, .slice none 0 0] 28)).heap[w.heap.size]? = some (.cells #[.int .i64 0, .int .i64 0, .int .i64 0, .int .i64 0, .int .i64 0, .int .i64 0, .bool false, .slice none 0 0, .slice none 0 0, .string ⟨#[]⟩, .int .i64 0, .int .i64 0, .slice none 0 0] 28 (0, 0))) := Lib.hid (heap_alloc_new w _)
  have T0 := Lib.hid (TT.out.kept (World.grownBy_alloc w (.cells #[.int .i64 0, .int .i64 0, .int .i64 0, .int .i64 0, .int .i64 0, .int .i64 0, .bool false, .slice none 0 0, .slice none 0 0, .string ⟨#[]⟩, .int .i64 0, .int .i64 0, .slice none 0 0] 28) none) (fun g e => by cases e))
  have W0 : Hid (w.grownBy (w.alloc (.cells #[.int .i64 0, .int .i64 0, .int .i64 0, .int .i64 0, .int .i64 0, .int .i64 0, .bool false, .slice none 0 0, .slice none 0 0, .string ⟨#[]⟩, .int .i64 0, .int .i64 0, .slice none 0 0] 28)) (some tb)) := Lib.hid (World.grownBy_alloc w _ _)
  have S0 : Hid (w.heap.size < (w.alloc (.cells #[.int .i64 0, .int .i64 0, .int .i64 0, .int .i64 0, .int .i64 0, .int .i64 0, .bool false, .slice none 0 0, .slice none 0 0, .string ⟨#[]⟩, .int .i64 0, .int .i64 0, .slice none 0 0] 28)).heap.size) := Lib.hid (by simp)
  have NR : Hid (w.heap.size ≠ tb) := Lib.hid (TT.out.out_of (Nat.le_refl _))
  clear TT
  generalize w.alloc (.cells #[.int .i64 0, .int .i64 0, .int .i64 0, .int .i64 0, .int .i64 0, .int .i64 0, .bool false, .slice none 0 0, .slice none 0 0, .string ⟨#[]⟩, .int .i64 0, .int .i64 0, .slice none 0 0] 28) = w0 at R0 T0 W0 S0 ⊢
  generalize hrb : w.heap.size = rb at R0 NR S0 ⊢
  have RB := Lib.hid hrb
  clear hrb
  have D : Hid (Calls Tryz.prog 74 #[.pointer (some ⟨tb, 0, none⟩), .string ⟨#[80, 67, 83]⟩] w0 (QLet ⟨#[80, 67, 83]⟩ tb z b w0)) := Lib.hid (qlet_any ⟨#[80, 67, 83]⟩ (by decide) z tb b w0 T0.out)
  go_upto_region 2 with (first | (have HH := T2; go_at_call 75; refine (qnum_any z2 tb b2 w2 T2.out).mono ?_; rintro e w3 ⟨x3, z3, b3, rfl, hn, hk, hT, hg⟩; have K3n := Lib.hid hk; have T3 := Lib.hid hT; have G3 := Lib.hid hg; clear hn hk hT hg) | (have HH := T1; go_at_call 75; refine (qnum_any z1 tb b1 w1 T1.out).mono ?_; rintro e w2 ⟨x2, z2, b2, rfl, hn, hk, hT, hg⟩; have K2n := Lib.hid hk; have T2 := Lib.hid hT; have G2 := Lib.hid hg; clear hn hk hT hg) | (go_at_call 74; refine D.out.mono ?_; rintro e w1 ⟨k, z1, b1, rfl, hk3, hk, hT, hg⟩; have K0 : Hid (Took (LeP lsM) (letC lsM) (bytesOf z) b (k : Int) (bytesOf z1) b1) := Lib.hid hk; have K3 : Hid (k < 3) := Lib.hid hk3; have T1 := Lib.hid hT; have G1 := Lib.hid hg; clear hk3 hk hT hg))
  clear D
  have kc0 := K3.out
  have X : Hid ((w3.alloc (.cells #[.int .i64 (k : Nat), .int .i64 (x2 : Nat), .int .i64 (x3 : Nat), .int .i64 0, .int .i64 0, .int .i64 0, .bool false, .slice none 0 0, .slice none 0 0, .string ⟨#[]⟩, .int .i64 0, .int .i64 0, .slice none 0 0] 28)).heap[w3.heap.size]? = some (.cells #[.int .i64 (k : Nat), .int .i64 (x2 : Nat), .int .i64 (x3 : Nat), .int .i64 0, .int .i64 0, .int .i64 0, .bool false, .slice none 0 0, .slice none 0 0, .string ⟨#[]⟩, .int .i64 0, .int .i64 0, .slice none 0 0] 28 (0, 0))) := Lib.hid (heap_alloc_new w3 _)
  have T := Lib.hid (T3.out.kept (World.grownBy_alloc w3 (.cells #[.int .i64 (k : Nat), .int .i64 (x2 : Nat), .int .i64 (x3 : Nat), .int .i64 0, .int .i64 0, .int .i64 0, .bool false, .slice none 0 0, .slice none 0 0, .string ⟨#[]⟩, .int .i64 0, .int .i64 0, .slice none 0 0] 28) none) (fun g e => by cases e))
  have GA : Hid (w0.grownBy w3 (some tb)) := Lib.hid (grown_trans (grown_trans G1.out G2.out (fun _ e => .inl e)) G3.out (fun _ e => .inl e))
  have G : Hid (w0.grownBy (w3.alloc (.cells #[.int .i64 (k : Nat), .int .i64 (x2 : Nat), .int .i64 (x3 : Nat), .int .i64 0, .int .i64 0, .int .i64 0, .bool false, .slice none 0 0, .slice none 0 0, .string ⟨#[]⟩, .int .i64 0, .int .i64 0, .slice none 0 0] 28)) (some tb)) := Lib.hid (grown_trans GA.out (World.grownBy_alloc w3 _ (some tb)) (fun _ e => .inl e))
  have NX : Hid (w3.heap.size ≠ tb) := Lib.hid (T3.out.out_of (Nat.le_refl _))
  have SX : Hid (rb < w3.heap.size) := Lib.hid (Nat.lt_of_lt_of_le S0.out GA.out.size)
  have XW : Hid (w0.heap.size ≤ w3.heap.size) := Lib.hid GA.out.size
  clear T1 G1 T2 G2 T3 G3 GA T0
  generalize w3.alloc (.cells #[.int .i64 (k : Nat), .int .i64 (x2 : Nat), .int .i64 (x3 : Nat), .int .i64 0, .int .i64 0, .int .i64 0, .bool false, .slice none 0 0, .slice none 0 0, .string ⟨#[]⟩, .int .i64 0, .int .i64 0, .slice none 0 0] 28) = wa at X T G ⊢
  generalize w3.heap.size = xb at X NX SX XW ⊢
  have R : Hid (wa.heap[rb]? = _) := Lib.hid (box_keptP R0.out G.out NR.out)
  clear R0
  have x0 := (obj_cells X.out).1 0 _ rfl
  have k3 : k = 0 ∨ k = 1 ∨ k = 2 := by omega
  clear kc0
  rcases k3 with rfl | rfl | rfl
  · skip
    go_upto_region 5 with (first | (go_at_call 75; refine (qnum_any z3 tb b3 wa T.out).mono ?_; rintro e wbc0 ⟨x4, z4, b4, rfl, hn, hk, hT, hg⟩; have K4 := Lib.hid hk; have Twb0 := Lib.hid hT; have Gwb0 := Lib.hid hg; clear hn; have GX := Lib.hid Gwb0.out; have XX := Lib.hid (box_keptP X.out GX.out NX.out); have y3 := (obj_cells XX.out).1 3 _ rfl; have yf3 := (obj_cells XX.out).2.1 3; clear hk hT hg))
    have gx : Hid ((wbc0).grownBy (wbc0.setCell ⟨xb, 3, none⟩ (.int .i64 (x4 : Nat))) (some xb)) := Lib.hid (set_grown wbc0 xb 3 (.int .i64 (x4 : Nat)))
    have X2 : Hid ((wbc0.setCell ⟨xb, 3, none⟩ (.int .i64 (x4 : Nat))).heap[xb]? = some (.cells #[.int .i64 ((0 : Nat) : Int), .int .i64 (x2 : Nat), .int .i64 (x3 : Nat), .int .i64 (x4 : Nat), .int .i64 0, .int .i64 0, .bool false, .slice none 0 0, .slice none 0 0, .string ⟨#[]⟩, .int .i64 0, .int .i64 0, .slice none 0 0] 28 (0, 0))) := Lib.hid (by rw [heap_setCell_at XX.out]; rfl)
    have R2 : Hid ((wbc0.setCell ⟨xb, 3, none⟩ (.int .i64 (x4 : Nat))).heap[rb]? = _) := Lib.hid (box_keptP (box_keptP R.out GX.out NR.out) gx.out (by have := SX.out; omega))
    have T2 : Hid (TkP (wbc0.setCell ⟨xb, 3, none⟩ (.int .i64 (x4 : Nat))) tb z4 b4) := Lib.hid (Twb0.out.kept gx.out (fun g e => by cases e; exact NX.out))
    have GN : Hid (w0.grownBy (wbc0.setCell ⟨xb, 3, none⟩ (.int .i64 (x4 : Nat))) (some tb)) := Lib.hid (grown_trans (grown_trans G.out GX.out (fun _ e => .inl e)) gx.out (fun g e => by cases e; exact .inr (by have := SX.out; have := S0.out; have := G.out.size; have h1 := S0.out; exact XW.out)))
    clear X R T G XX GX gx y3 yf3 Twb0 Gwb0
    generalize wbc0.setCell ⟨xb, 3, none⟩ (.int .i64 (x4 : Nat)) = wb at X2 R2 T2 GN ⊢
    have X := X2; have R := R2; have T := T2; have G := GN
    clear X2 R2 T2 GN
    clear x0
    go_upto_region 13 with (first | (go_at_call 76; refine (qcs_any z4 tb b4 wb (fun z b w => qcmp_any z tb b w) T.out).mono ?_; rintro e wcc0 ⟨p5, _, c5, l5, z5, b5, rfl, rfl, ho, hk, hT, hg⟩; have K5 := Lib.hid hk; have Twc0 := Lib.hid hT; have Gwc0 := Lib.hid hg; have RO := Lib.hid ho; clear ho; have GX := Lib.hid Gwc0.out; have XX := Lib.hid (box_keptP X.out GX.out NX.out); have y7 := (obj_cells XX.out).1 7 _ rfl; have yf7 := (obj_cells XX.out).2.1 7; clear hk hT hg))
    have gx : Hid ((wcc0).grownBy (wcc0.setCell ⟨xb, 7, none⟩ (.slice p5 l5.length c5)) (some xb)) := Lib.hid (set_grown wcc0 xb 7 (.slice p5 l5.length c5))
    have X2 : Hid ((wcc0.setCell ⟨xb, 7, none⟩ (.slice p5 l5.length c5)).heap[xb]? = some (.cells #[.int .i64 ((0 : Nat) : Int), .int .i64 (x2 : Nat), .int .i64 (x3 : Nat), .int .i64 (x4 : Nat), .int .i64 0, .int .i64 0, .bool false, .slice p5 l5.length c5, .slice none 0 0, .string ⟨#[]⟩, .int .i64 0, .int .i64 0, .slice none 0 0] 28 (0, 0))) := Lib.hid (by rw [heap_setCell_at XX.out]; rfl)
    have R2 : Hid ((wcc0.setCell ⟨xb, 7, none⟩ (.slice p5 l5.length c5)).heap[rb]? = _) := Lib.hid (box_keptP (box_keptP R.out GX.out NR.out) gx.out (by have := SX.out; omega))
    have T2 : Hid (TkP (wcc0.setCell ⟨xb, 7, none⟩ (.slice p5 l5.length c5)) tb z5 b5) := Lib.hid (Twc0.out.kept gx.out (fun g e => by cases e; exact NX.out))
    have GN : Hid (w0.grownBy (wcc0.setCell ⟨xb, 7, none⟩ (.slice p5 l5.length c5)) (some tb)) := Lib.hid (grown_trans (grown_trans G.out GX.out (fun _ e => .inl e)) gx.out (fun g e => by cases e; exact .inr (by have := SX.out; have := S0.out; have := G.out.size; have h1 := S0.out; exact XW.out)))
    have RW : Hid (lyC.Own (wcc0.setCell ⟨xb, 7, none⟩ (.slice p5 l5.length c5)) wb.heap.size (.slice p5 l5.length c5) l5) := Lib.hid (compsOwn_kept RO.out gx.out XX.out (by decide))
    have BL : Hid (w0.heap.size ≤ wb.heap.size) := Lib.hid G.out.size
    clear X R T G XX GX gx y7 yf7 Twc0 Gwc0 RO
    generalize wcc0.setCell ⟨xb, 7, none⟩ (.slice p5 l5.length c5) = wc at X2 R2 T2 GN RW ⊢
    have X := X2; have R := R2; have T := T2; have G := GN
    clear X2 R2 T2 GN
    have hx0 := (obj_cells X.out).1 0 _ rfl
    have hx1 := (obj_cells X.out).1 1 _ rfl
    have hx2 := (obj_cells X.out).1 2 _ rfl
    have hx3 := (obj_cells X.out).1 3 _ rfl
    have hx4 := (obj_cells X.out).1 4 _ rfl
    have hx5 := (obj_cells X.out).1 5 _ rfl
    have hx6 := (obj_cells X.out).1 6 _ rfl
    have hx7 := (obj_cells X.out).1 7 _ rfl
    have hx8 := (obj_cells X.out).1 8 _ rfl
    have hx9 := (obj_cells X.out).1 9 _ rfl
    have hx10 := (obj_cells X.out).1 10 _ rfl
    have hx11 := (obj_cells X.out).1 11 _ rfl
    have hx12 := (obj_cells X.out).1 12 _ rfl
    have hr0 := (obj_cells R.out).1 0 _ rfl
    have hr1 := (obj_cells R.out).1 1 _ rfl
    have hr2 := (obj_cells R.out).1 2 _ rfl
    have hr3 := (obj_cells R.out).1 3 _ rfl
    have hr4 := (obj_cells R.out).1 4 _ rfl
    have hr5 := (obj_cells R.out).1 5 _ rfl
    have hr6 := (obj_cells R.out).1 6 _ rfl
    have hr7 := (obj_cells R.out).1 7 _ rfl
    have hr8 := (obj_cells R.out).1 8 _ rfl
    have hr9 := (obj_cells R.out).1 9 _ rfl
    have hr10 := (obj_cells R.out).1 10 _ rfl
    have hr11 := (obj_cells R.out).1 11 _ rfl
    have hr12 := (obj_cells R.out).1 12 _ rfl
    have rf := (obj_cells R.out).2.1
    have FIN : Hid (QMsg tb z b w (.returned (.agg #[.int .i64 ((0 : Nat) : Int), .int .i64 (x2 : Nat), .int .i64 (x3 : Nat), .int .i64 (x4 : Nat), .int .i64 0, .int .i64 0, .bool false, .slice p5 l5.length c5, .slice none 0 0, .string ⟨#[]⟩, .int .i64 0, .int .i64 0, .slice none 0 0])) (setAll wc rb 0 [.int .i64 ((0 : Nat) : Int), .int .i64 (x2 : Nat), .int .i64 (x3 : Nat), .int .i64 (x4 : Nat), .int .i64 0, .int .i64 0, .bool false, .slice p5 l5.length c5, .slice none 0 0, .string ⟨#[]⟩, .int .i64 0, .int .i64 0, .slice none 0 0])) := Lib.hid (qmsg_fin (m := ⟨0, x2, x3, x4, 0, 0, false, ⟨#[]⟩, 0, 0, [], l5, []⟩) (q := ⟨p5, c5, none, 0, none, 0⟩) [.int .i64 ((0 : Nat) : Int), .int .i64 (x2 : Nat), .int .i64 (x3 : Nat), .int .i64 (x4 : Nat), .int .i64 0, .int .i64 0, .bool false, .slice p5 l5.length c5, .slice none 0 0, .string ⟨#[]⟩, .int .i64 0, .int .i64 0, .slice none 0 0] R.out (took_poll K0.out K2n.out K3n.out K4.out K5.out) ⟨(RW.out.mono (by have := W0.out.size; have := BL.out; have := RB.out; omega)), ⟨[], OwnX.nil _ _⟩, ⟨[], ownT_none _ _⟩⟩ T.out (grown_trans W0.out G.out (fun _ e => .inl e)) RB.out NR.out)
    go_wp2_with fail
    refine bodyPost_ret (v := .agg #[.int .i64 ((0 : Nat) : Int), .int .i64 (x2 : Nat), .int .i64 (x3 : Nat), .int .i64 (x4 : Nat), .int .i64 0, .int .i64 0, .bool false, .slice p5 l5.length c5, .slice none 0 0, .string ⟨#[]⟩, .int .i64 0, .int .i64 0, .slice none 0 0]) (by rw [results_cell1 rfl]; go_simp) rfl ?_
    exact FIN.out
  · skip
    go_upto_region 13 with (first | (go_at_call 78; refine (qes_any z3 tb b3 wa (fun z b w => qent_any z tb b w (fun z b w => qcmp_any z tb b w) (fun z b w => qstp_any z tb b w)) T.out).mono ?_; rintro e wcc0 ⟨p5, _, c5, l5, z5, b5, rfl, rfl, ⟨us5, ho⟩, hk, hT, hg⟩; have K5 := Lib.hid hk; have Twc0 := Lib.hid hT; have Gwc0 := Lib.hid hg; have RO := Lib.hid ho; clear ho; have GX := Lib.hid Gwc0.out; have XX := Lib.hid (box_keptP X.out GX.out NX.out); have y8 := (obj_cells XX.out).1 8 _ rfl; have yf8 := (obj_cells XX.out).2.1 8; clear hk hT hg))
    have gx : Hid ((wcc0).grownBy (wcc0.setCell ⟨xb, 8, none⟩ (.slice p5 l5.length c5)) (some xb)) := Lib.hid (set_grown wcc0 xb 8 (.slice p5 l5.length c5))
    have X2 : Hid ((wcc0.setCell ⟨xb, 8, none⟩ (.slice p5 l5.length c5)).heap[xb]? = some (.cells #[.int .i64 ((1 : Nat) : Int), .int .i64 (x2 : Nat), .int .i64 (x3 : Nat), .int .i64 0, .int .i64 0, .int .i64 0, .bool false, .slice none 0 0, .slice p5 l5.length c5, .string ⟨#[]⟩, .int .i64 0, .int .i64 0, .slice none 0 0] 28 (0, 0))) := Lib.hid (by rw [heap_setCell_at XX.out]; rfl)
    have R2 : Hid ((wcc0.setCell ⟨xb, 8, none⟩ (.slice p5 l5.length c5)).heap[rb]? = _) := Lib.hid (box_keptP (box_keptP R.out GX.out NR.out) gx.out (by have := SX.out; omega))
    have T2 : Hid (TkP (wcc0.setCell ⟨xb, 8, none⟩ (.slice p5 l5.length c5)) tb z5 b5) := Lib.hid (Twc0.out.kept gx.out (fun g e => by cases e; exact NX.out))
    have GN : Hid (w0.grownBy (wcc0.setCell ⟨xb, 8, none⟩ (.slice p5 l5.length c5)) (some tb)) := Lib.hid (grown_trans (grown_trans G.out GX.out (fun _ e => .inl e)) gx.out (fun g e => by cases e; exact .inr (by have := SX.out; have := S0.out; have := G.out.size; have h1 := S0.out; exact XW.out)))
    have RW : Hid (OwnX (wcc0.setCell ⟨xb, 8, none⟩ (.slice p5 l5.length c5)) wa.heap.size (.slice p5 l5.length c5) us5 l5) := Lib.hid (RO.out.kept gx.out XX.out (by decide) (by decide) (by decide) (by decide))
    have BL : Hid (w0.heap.size ≤ wa.heap.size) := Lib.hid G.out.size
    clear X R T G XX GX gx y8 yf8 Twc0 Gwc0 RO
    generalize wcc0.setCell ⟨xb, 8, none⟩ (.slice p5 l5.length c5) = wc at X2 R2 T2 GN RW ⊢
    have X := X2; have R := R2; have T := T2; have G := GN
    clear X2 R2 T2 GN
    clear x0
    have hx0 := (obj_cells X.out).1 0 _ rfl
    have hx1 := (obj_cells X.out).1 1 _ rfl
    have hx2 := (obj_cells X.out).1 2 _ rfl
    have hx3 := (obj_cells X.out).1 3 _ rfl
    have hx4 := (obj_cells X.out).1 4 _ rfl
    have hx5 := (obj_cells X.out).1 5 _ rfl
    have hx6 := (obj_cells X.out).1 6 _ rfl
    have hx7 := (obj_cells X.out).1 7 _ rfl
    have hx8 := (obj_cells X.out).1 8 _ rfl
    have hx9 := (obj_cells X.out).1 9 _ rfl
    have hx10 := (obj_cells X.out).1 10 _ rfl
    have hx11 := (obj_cells X.out).1 11 _ rfl
    have hx12 := (obj_cells X.out).1 12 _ rfl
    have hr0 := (obj_cells R.out).1 0 _ rfl
    have hr1 := (obj_cells R.out).1 1 _ rfl
    have hr2 := (obj_cells R.out).1 2 _ rfl
    have hr3 := (obj_cells R.out).1 3 _ rfl
    have hr4 := (obj_cells R.out).1 4 _ rfl
    have hr5 := (obj_cells R.out).1 5 _ rfl
    have hr6 := (obj_cells R.out).1 6 _ rfl
    have hr7 := (obj_cells R.out).1 7 _ rfl
    have hr8 := (obj_cells R.out).1 8 _ rfl
    have hr9 := (obj_cells R.out).1 9 _ rfl
    have hr10 := (obj_cells R.out).1 10 _ rfl
    have hr11 := (obj_cells R.out).1 11 _ rfl
    have hr12 := (obj_cells R.out).1 12 _ rfl
    have rf := (obj_cells R.out).2.1
    have FIN : Hid (QMsg tb z b w (.returned (.agg #[.int .i64 ((1 : Nat) : Int), .int .i64 (x2 : Nat), .int .i64 (x3 : Nat), .int .i64 0, .int .i64 0, .int .i64 0, .bool false, .slice none 0 0, .slice p5 l5.length c5, .string ⟨#[]⟩, .int .i64 0, .int .i64 0, .slice none 0 0])) (setAll wc rb 0 [.int .i64 ((1 : Nat) : Int), .int .i64 (x2 : Nat), .int .i64 (x3 : Nat), .int .i64 0, .int .i64 0, .int .i64 0, .bool false, .slice none 0 0, .slice p5 l5.length c5, .string ⟨#[]⟩, .int .i64 0, .int .i64 0, .slice none 0 0])) := Lib.hid (qmsg_fin (m := ⟨1, x2, x3, 0, 0, 0, false, ⟨#[]⟩, 0, 0, [], [], l5⟩) (q := ⟨none, 0, p5, c5, none, 0⟩) [.int .i64 ((1 : Nat) : Int), .int .i64 (x2 : Nat), .int .i64 (x3 : Nat), .int .i64 0, .int .i64 0, .int .i64 0, .bool false, .slice none 0 0, .slice p5 l5.length c5, .string ⟨#[]⟩, .int .i64 0, .int .i64 0, .slice none 0 0] R.out (took_changes K0.out K2n.out K3n.out K5.out) ⟨Ly.Own.nil _ _, ⟨us5, RW.out.mono (by have := W0.out.size; have := BL.out; have := RB.out; omega)⟩, ⟨[], ownT_none _ _⟩⟩ T.out (grown_trans W0.out G.out (fun _ e => .inl e)) RB.out NR.out)
    go_wp2_with fail
    refine bodyPost_ret (v := .agg #[.int .i64 ((1 : Nat) : Int), .int .i64 (x2 : Nat), .int .i64 (x3 : Nat), .int .i64 0, .int .i64 0, .int .i64 0, .bool false, .slice none 0 0, .slice p5 l5.length c5, .string ⟨#[]⟩, .int .i64 0, .int .i64 0, .slice none 0 0]) (by rw [results_cell1 rfl]; go_simp) rfl ?_
    exact FIN.out
  · skip
    go_upto_region 10 with (first | (have HH := Twb1; go_at_call 75; refine (qnum_any z5 tb b5 wbc1 Twb1.out).mono ?_; rintro e wbc2 ⟨x6, z6, b6, rfl, hn, hk, hT, hg⟩; have K6 := Lib.hid hk; have Twb2 := Lib.hid hT; have Gwb2 := Lib.hid hg; clear hn; have GX := Lib.hid (grown_trans (grown_trans Gwb0.out Gwb1.out (fun _ e => .inl e)) Gwb2.out (fun _ e => .inl e)); have XX := Lib.hid (box_keptP X.out GX.out NX.out); have y3 := (obj_cells XX.out).1 3 _ rfl; have yf3 := (obj_cells XX.out).2.1 3; have y4 := (obj_cells XX.out).1 4 _ rfl; have yf4 := (obj_cells XX.out).2.1 4; have y5 := (obj_cells XX.out).1 5 _ rfl; have yf5 := (obj_cells XX.out).2.1 5; clear hk hT hg) | (have HH := Twb0; go_at_call 75; refine (qnum_any z4 tb b4 wbc0 Twb0.out).mono ?_; rintro e wbc1 ⟨x5, z5, b5, rfl, hn, hk, hT, hg⟩; have K5 := Lib.hid hk; have Twb1 := Lib.hid hT; have Gwb1 := Lib.hid hg; clear hn;  clear hk hT hg) | (go_at_call 75; refine (qnum_any z3 tb b3 wa T.out).mono ?_; rintro e wbc0 ⟨x4, z4, b4, rfl, hn, hk, hT, hg⟩; have K4 := Lib.hid hk; have Twb0 := Lib.hid hT; have Gwb0 := Lib.hid hg; clear hn;  clear hk hT hg))
    have gx : Hid ((wbc2).grownBy (((wbc2.setCell ⟨xb, 3, none⟩ (.int .i64 (x4 : Nat))).setCell ⟨xb, 4, none⟩ (.int .i64 (x5 : Nat))).setCell ⟨xb, 5, none⟩ (.int .i64 (x6 : Nat))) (some xb)) := Lib.hid (setAll_one wbc2 xb 3 [.int .i64 (x4 : Nat), .int .i64 (x5 : Nat), .int .i64 (x6 : Nat)])
    have X2 : Hid ((((wbc2.setCell ⟨xb, 3, none⟩ (.int .i64 (x4 : Nat))).setCell ⟨xb, 4, none⟩ (.int .i64 (x5 : Nat))).setCell ⟨xb, 5, none⟩ (.int .i64 (x6 : Nat))).heap[xb]? = some (.cells #[.int .i64 ((2 : Nat) : Int), .int .i64 (x2 : Nat), .int .i64 (x3 : Nat), .int .i64 (x4 : Nat), .int .i64 (x5 : Nat), .int .i64 (x6 : Nat), .bool false, .slice none 0 0, .slice none 0 0, .string ⟨#[]⟩, .int .i64 0, .int .i64 0, .slice none 0 0] 28 (0, 0))) := Lib.hid (by rw [heap_setCell_at (heap_setCell_at (heap_setCell_at XX.out _) _)]; rfl)
    have R2 : Hid ((((wbc2.setCell ⟨xb, 3, none⟩ (.int .i64 (x4 : Nat))).setCell ⟨xb, 4, none⟩ (.int .i64 (x5 : Nat))).setCell ⟨xb, 5, none⟩ (.int .i64 (x6 : Nat))).heap[rb]? = _) := Lib.hid (box_keptP (box_keptP R.out GX.out NR.out) gx.out (by have := SX.out; omega))
    have T2 : Hid (TkP (((wbc2.setCell ⟨xb, 3, none⟩ (.int .i64 (x4 : Nat))).setCell ⟨xb, 4, none⟩ (.int .i64 (x5 : Nat))).setCell ⟨xb, 5, none⟩ (.int .i64 (x6 : Nat))) tb z6 b6) := Lib.hid (Twb2.out.kept gx.out (fun g e => by cases e; exact NX.out))
    have GN : Hid (w0.grownBy (((wbc2.setCell ⟨xb, 3, none⟩ (.int .i64 (x4 : Nat))).setCell ⟨xb, 4, none⟩ (.int .i64 (x5 : Nat))).setCell ⟨xb, 5, none⟩ (.int .i64 (x6 : Nat))) (some tb)) := Lib.hid (grown_trans (grown_trans G.out GX.out (fun _ e => .inl e)) gx.out (fun g e => by cases e; exact .inr (by have := SX.out; have := S0.out; have := G.out.size; have h1 := S0.out; exact XW.out)))
    clear X R T G XX GX gx y3 yf3 y4 yf4 y5 yf5 Twb0 Gwb0 Twb1 Gwb1 Twb2 Gwb2
    generalize ((wbc2.setCell ⟨xb, 3, none⟩ (.int .i64 (x4 : Nat))).setCell ⟨xb, 4, none⟩ (.int .i64 (x5 : Nat))).setCell ⟨xb, 5, none⟩ (.int .i64 (x6 : Nat)) = wb at X2 R2 T2 GN ⊢
    have X := X2; have R := R2; have T := T2; have G := GN
    clear X2 R2 T2 GN
    clear x0
    go_upto_region 11 with (first | (go_at_call 80; refine (qtru_any z6 tb b6 wb T.out).mono ?_; rintro e wcc0 ⟨x7, z7, b7, rfl, hk, hT, hg⟩; have K7 := Lib.hid hk; have Twc0 := Lib.hid hT; have Gwc0 := Lib.hid hg; have GX := Lib.hid Gwc0.out; have XX := Lib.hid (box_keptP X.out GX.out NX.out); have y6 := (obj_cells XX.out).1 6 _ rfl; have yf6 := (obj_cells XX.out).2.1 6; clear hk hT hg))
    have gx : Hid ((wcc0).grownBy (wcc0.setCell ⟨xb, 6, none⟩ (.bool x7)) (some xb)) := Lib.hid (set_grown wcc0 xb 6 (.bool x7))
    have X2 : Hid ((wcc0.setCell ⟨xb, 6, none⟩ (.bool x7)).heap[xb]? = some (.cells #[.int .i64 ((2 : Nat) : Int), .int .i64 (x2 : Nat), .int .i64 (x3 : Nat), .int .i64 (x4 : Nat), .int .i64 (x5 : Nat), .int .i64 (x6 : Nat), .bool x7, .slice none 0 0, .slice none 0 0, .string ⟨#[]⟩, .int .i64 0, .int .i64 0, .slice none 0 0] 28 (0, 0))) := Lib.hid (by rw [heap_setCell_at XX.out]; rfl)
    have R2 : Hid ((wcc0.setCell ⟨xb, 6, none⟩ (.bool x7)).heap[rb]? = _) := Lib.hid (box_keptP (box_keptP R.out GX.out NR.out) gx.out (by have := SX.out; omega))
    have T2 : Hid (TkP (wcc0.setCell ⟨xb, 6, none⟩ (.bool x7)) tb z7 b7) := Lib.hid (Twc0.out.kept gx.out (fun g e => by cases e; exact NX.out))
    have GN : Hid (w0.grownBy (wcc0.setCell ⟨xb, 6, none⟩ (.bool x7)) (some tb)) := Lib.hid (grown_trans (grown_trans G.out GX.out (fun _ e => .inl e)) gx.out (fun g e => by cases e; exact .inr (by have := SX.out; have := S0.out; have := G.out.size; have h1 := S0.out; exact XW.out)))
    clear X R T G XX GX gx y6 yf6 Twc0 Gwc0
    generalize wcc0.setCell ⟨xb, 6, none⟩ (.bool x7) = wc at X2 R2 T2 GN ⊢
    have X := X2; have R := R2; have T := T2; have G := GN
    clear X2 R2 T2 GN
    go_upto_region 12 with (first | (go_at_call 81; refine (qstr_any z7 tb b7 wc T.out).mono ?_; rintro e wdc0 ⟨x8, z8, b8, rfl, hk, hT, hg⟩; have K8 := Lib.hid hk; have Twd0 := Lib.hid hT; have Gwd0 := Lib.hid hg; have GX := Lib.hid Gwd0.out; have XX := Lib.hid (box_keptP X.out GX.out NX.out); have y9 := (obj_cells XX.out).1 9 _ rfl; have yf9 := (obj_cells XX.out).2.1 9; clear hk hT hg))
    have gx : Hid ((wdc0).grownBy (wdc0.setCell ⟨xb, 9, none⟩ (.string x8)) (some xb)) := Lib.hid (set_grown wdc0 xb 9 (.string x8))
    have X2 : Hid ((wdc0.setCell ⟨xb, 9, none⟩ (.string x8)).heap[xb]? = some (.cells #[.int .i64 ((2 : Nat) : Int), .int .i64 (x2 : Nat), .int .i64 (x3 : Nat), .int .i64 (x4 : Nat), .int .i64 (x5 : Nat), .int .i64 (x6 : Nat), .bool x7, .slice none 0 0, .slice none 0 0, .string x8, .int .i64 0, .int .i64 0, .slice none 0 0] 28 (0, 0))) := Lib.hid (by rw [heap_setCell_at XX.out]; rfl)
    have R2 : Hid ((wdc0.setCell ⟨xb, 9, none⟩ (.string x8)).heap[rb]? = _) := Lib.hid (box_keptP (box_keptP R.out GX.out NR.out) gx.out (by have := SX.out; omega))
    have T2 : Hid (TkP (wdc0.setCell ⟨xb, 9, none⟩ (.string x8)) tb z8 b8) := Lib.hid (Twd0.out.kept gx.out (fun g e => by cases e; exact NX.out))
    have GN : Hid (w0.grownBy (wdc0.setCell ⟨xb, 9, none⟩ (.string x8)) (some tb)) := Lib.hid (grown_trans (grown_trans G.out GX.out (fun _ e => .inl e)) gx.out (fun g e => by cases e; exact .inr (by have := SX.out; have := S0.out; have := G.out.size; have h1 := S0.out; exact XW.out)))
    clear X R T G XX GX gx y9 yf9 Twd0 Gwd0
    generalize wdc0.setCell ⟨xb, 9, none⟩ (.string x8) = wd at X2 R2 T2 GN ⊢
    have X := X2; have R := R2; have T := T2; have G := GN
    clear X2 R2 T2 GN
    go_upto_region 13 with (first | (go_at_call 82; refine (qtre_any z8 tb b8 wd (fun z b w => qnod_any z tb b w) T.out).mono ?_; rintro e wec0 ⟨ro, nx, p9, _, c9, l9, us9, z9, b9, rfl, rfl, ho, hk, hT, hg⟩; have K9 := Lib.hid hk; have Twe0 := Lib.hid hT; have Gwe0 := Lib.hid hg; have RO := Lib.hid ho; clear ho; have GX := Lib.hid Gwe0.out; have XX := Lib.hid (box_keptP X.out GX.out NX.out); have y10 := (obj_cells XX.out).1 10 _ rfl; have yf10 := (obj_cells XX.out).2.1 10; have y11 := (obj_cells XX.out).1 11 _ rfl; have yf11 := (obj_cells XX.out).2.1 11; have y12 := (obj_cells XX.out).1 12 _ rfl; have yf12 := (obj_cells XX.out).2.1 12; clear hk hT hg))
    have gx : Hid ((wec0).grownBy (((wec0.setCell ⟨xb, 10, none⟩ (.int .i64 ro)).setCell ⟨xb, 11, none⟩ (.int .i64 nx)).setCell ⟨xb, 12, none⟩ (.slice p9 l9.length c9)) (some xb)) := Lib.hid (setAll_one wec0 xb 10 [.int .i64 ro, .int .i64 nx, .slice p9 l9.length c9])
    have X2 : Hid ((((wec0.setCell ⟨xb, 10, none⟩ (.int .i64 ro)).setCell ⟨xb, 11, none⟩ (.int .i64 nx)).setCell ⟨xb, 12, none⟩ (.slice p9 l9.length c9)).heap[xb]? = some (.cells #[.int .i64 ((2 : Nat) : Int), .int .i64 (x2 : Nat), .int .i64 (x3 : Nat), .int .i64 (x4 : Nat), .int .i64 (x5 : Nat), .int .i64 (x6 : Nat), .bool x7, .slice none 0 0, .slice none 0 0, .string x8, .int .i64 ro, .int .i64 nx, .slice p9 l9.length c9] 28 (0, 0))) := Lib.hid (by rw [heap_setCell_at (heap_setCell_at (heap_setCell_at XX.out _) _)]; rfl)
    have R2 : Hid ((((wec0.setCell ⟨xb, 10, none⟩ (.int .i64 ro)).setCell ⟨xb, 11, none⟩ (.int .i64 nx)).setCell ⟨xb, 12, none⟩ (.slice p9 l9.length c9)).heap[rb]? = _) := Lib.hid (box_keptP (box_keptP R.out GX.out NR.out) gx.out (by have := SX.out; omega))
    have T2 : Hid (TkP (((wec0.setCell ⟨xb, 10, none⟩ (.int .i64 ro)).setCell ⟨xb, 11, none⟩ (.int .i64 nx)).setCell ⟨xb, 12, none⟩ (.slice p9 l9.length c9)) tb z9 b9) := Lib.hid (Twe0.out.kept gx.out (fun g e => by cases e; exact NX.out))
    have GN : Hid (w0.grownBy (((wec0.setCell ⟨xb, 10, none⟩ (.int .i64 ro)).setCell ⟨xb, 11, none⟩ (.int .i64 nx)).setCell ⟨xb, 12, none⟩ (.slice p9 l9.length c9)) (some tb)) := Lib.hid (grown_trans (grown_trans G.out GX.out (fun _ e => .inl e)) gx.out (fun g e => by cases e; exact .inr (by have := SX.out; have := S0.out; have := G.out.size; have h1 := S0.out; exact XW.out)))
    have RW : Hid (OwnT (((wec0.setCell ⟨xb, 10, none⟩ (.int .i64 ro)).setCell ⟨xb, 11, none⟩ (.int .i64 nx)).setCell ⟨xb, 12, none⟩ (.slice p9 l9.length c9)) wd.heap.size (.slice p9 l9.length c9) us9 l9) := Lib.hid (RO.out.kept gx.out XX.out (by decide) (by decide))
    have BL : Hid (w0.heap.size ≤ wd.heap.size) := Lib.hid G.out.size
    clear X R T G XX GX gx y10 yf10 y11 yf11 y12 yf12 Twe0 Gwe0 RO
    generalize ((wec0.setCell ⟨xb, 10, none⟩ (.int .i64 ro)).setCell ⟨xb, 11, none⟩ (.int .i64 nx)).setCell ⟨xb, 12, none⟩ (.slice p9 l9.length c9) = we at X2 R2 T2 GN RW ⊢
    have X := X2; have R := R2; have T := T2; have G := GN
    clear X2 R2 T2 GN
    have hx0 := (obj_cells X.out).1 0 _ rfl
    have hx1 := (obj_cells X.out).1 1 _ rfl
    have hx2 := (obj_cells X.out).1 2 _ rfl
    have hx3 := (obj_cells X.out).1 3 _ rfl
    have hx4 := (obj_cells X.out).1 4 _ rfl
    have hx5 := (obj_cells X.out).1 5 _ rfl
    have hx6 := (obj_cells X.out).1 6 _ rfl
    have hx7 := (obj_cells X.out).1 7 _ rfl
    have hx8 := (obj_cells X.out).1 8 _ rfl
    have hx9 := (obj_cells X.out).1 9 _ rfl
    have hx10 := (obj_cells X.out).1 10 _ rfl
    have hx11 := (obj_cells X.out).1 11 _ rfl
    have hx12 := (obj_cells X.out).1 12 _ rfl
    have hr0 := (obj_cells R.out).1 0 _ rfl
    have hr1 := (obj_cells R.out).1 1 _ rfl
    have hr2 := (obj_cells R.out).1 2 _ rfl
    have hr3 := (obj_cells R.out).1 3 _ rfl
    have hr4 := (obj_cells R.out).1 4 _ rfl
    have hr5 := (obj_cells R.out).1 5 _ rfl
    have hr6 := (obj_cells R.out).1 6 _ rfl
    have hr7 := (obj_cells R.out).1 7 _ rfl
    have hr8 := (obj_cells R.out).1 8 _ rfl
    have hr9 := (obj_cells R.out).1 9 _ rfl
    have hr10 := (obj_cells R.out).1 10 _ rfl
    have hr11 := (obj_cells R.out).1 11 _ rfl
    have hr12 := (obj_cells R.out).1 12 _ rfl
    have rf := (obj_cells R.out).2.1
    have FIN : Hid (QMsg tb z b w (.returned (.agg #[.int .i64 ((2 : Nat) : Int), .int .i64 (x2 : Nat), .int .i64 (x3 : Nat), .int .i64 (x4 : Nat), .int .i64 (x5 : Nat), .int .i64 (x6 : Nat), .bool x7, .slice none 0 0, .slice none 0 0, .string x8, .int .i64 ro, .int .i64 nx, .slice p9 l9.length c9])) (setAll we rb 0 [.int .i64 ((2 : Nat) : Int), .int .i64 (x2 : Nat), .int .i64 (x3 : Nat), .int .i64 (x4 : Nat), .int .i64 (x5 : Nat), .int .i64 (x6 : Nat), .bool x7, .slice none 0 0, .slice none 0 0, .string x8, .int .i64 ro, .int .i64 nx, .slice p9 l9.length c9])) := Lib.hid (qmsg_fin (m := ⟨2, x2, x3, x4, x5, x6, x7, x8, ro, nx, l9, [], []⟩) (q := ⟨none, 0, none, 0, p9, c9⟩) [.int .i64 ((2 : Nat) : Int), .int .i64 (x2 : Nat), .int .i64 (x3 : Nat), .int .i64 (x4 : Nat), .int .i64 (x5 : Nat), .int .i64 (x6 : Nat), .bool x7, .slice none 0 0, .slice none 0 0, .string x8, .int .i64 ro, .int .i64 nx, .slice p9 l9.length c9] R.out (took_snap K0.out K2n.out K3n.out K4.out K5.out K6.out K7.out K8.out K9.out) ⟨Ly.Own.nil _ _, ⟨[], OwnX.nil _ _⟩, ⟨us9, RW.out.mono (by have := W0.out.size; have := BL.out; have := RB.out; omega)⟩⟩ T.out (grown_trans W0.out G.out (fun _ e => .inl e)) RB.out NR.out)
    go_wp2_with fail
    refine bodyPost_ret (v := .agg #[.int .i64 ((2 : Nat) : Int), .int .i64 (x2 : Nat), .int .i64 (x3 : Nat), .int .i64 (x4 : Nat), .int .i64 (x5 : Nat), .int .i64 (x6 : Nat), .bool x7, .slice none 0 0, .slice none 0 0, .string x8, .int .i64 ro, .int .i64 nx, .slice p9 l9.length c9]) (by rw [results_cell1 rfl]; go_simp) rfl ?_
    exact FIN.out

end Go.Proofs.YtjmfjlffcopnnaaGreatDoor
