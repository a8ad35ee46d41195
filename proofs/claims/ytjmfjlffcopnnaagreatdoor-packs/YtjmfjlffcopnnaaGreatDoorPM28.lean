/-
  Sb2, Ta7, in one text. Conditions: as each theorem's premises say.
-/
import Derived.Test.YtjmfjlffcopnnaaGreatDoorPM27
import Derived.Test.YtjmfjlffcopnnaaGreatDoorPM26
import Derived.Test.YtjmfjlffcopnnaaGreatDoorPM25
namespace Go.Proofs.YtjmfjlffcopnnaaGreatDoor
open Go.RowKit
open Go.Proofs.YtjmfjlffcopnnaaGreatDoor.K (C RowC)

/-- No longer than a computer's memory, in bytes. -/
structure MsB (m : Ms) : Prop where
  ed : m.ed.length * 32 ≤ 140737488355328
  es : m.es.length * 64 ≤ 140737488355328
  ns : m.ns.length * 56 ≤ 140737488355328
  tx : m.tx.size ≤ 140737488355328
  kids : ∀ x ∈ m.ns, x.kids.length * 8 ≤ 140737488355328
  each : ∀ e ∈ m.es, e.ed.length * 32 ≤ 140737488355328 ∧ e.dl.length * 64 ≤ 140737488355328 ∧ ∀ s ∈ e.dl, s.kids.length * 8 ≤ 140737488355328
theorem MsB.z {m : Ms} (h : MsB m) : MsZ m := by
  obtain ⟨h1, h2, h3, h4, h5, h6⟩ := h
  exact ⟨by omega, by omega, by omega, h4, fun x hx => by have := h5 x hx; omega, fun e he => by
    obtain ⟨a, b, c⟩ := h6 e he
    exact ⟨by omega, by omega, fun s hs => by have := c s hs; omega⟩⟩
def CopyMP (m : Ms) (w : World) (e : Ending) (w' : World) : Prop := ∃ q, e = .returned (msV m q) ∧ OwnM w' w.heap.size m q ∧ Below w.heap.size w w'

set_option maxRecDepth 100000 in
set_option maxHeartbeats 4000000 in
theorem copyMsg_any (m : Ms) (q : Mq) (w : World) (hz : MsB m) (h : MsR w m q) : Calls Tryz.prog 5 #[msV m q] w (CopyMP m w) := by
  have CE : Hid (∀ W, Bl w W → Calls Tryz.prog 18 #[.slice q.ep m.ed.length q.ec] W (CopyCP m.ed W)) := Lib.hid (fun W hW => copyComps_any _ m.ed _ _ rfl W (rowC_below h.ed hW) hz.ed)
  have CN : Hid (∀ W, Bl w W → Calls Tryz.prog 19 #[.slice q.sp m.es.length q.sc] W (CopyEP m.es W)) := Lib.hid (fun W hW => copyEntries_any _ m.es _ _ rfl W (h.es.below hW) hz.es hz.each)
  have CT : Hid (∀ W, Bl w W → Calls Tryz.prog 20 #[trV m.ro m.nx q.np m.ns.length q.nc] W (CopyT m.ro m.nx m.ns W)) := Lib.hid (fun W hW => copyTree_any m.ro m.nx q.np m.ns _ q.nc rfl W (h.ns.below hW) hz.ns hz.kids)
  clear hz h
  obtain ⟨kd, cl, rv, sq, fr, ls, rf, tx, ro, nx, ns, ed, es⟩ := m
  obtain ⟨ep, ec, sp, sc, np, nc⟩ := q
  have FIN : Hid (∀ (p1 : Option Addr) c1 p2 c2 p3 c3 (W : World), lyC.Own W w.heap.size (.slice p1 ed.length c1) ed → (∃ vs, OwnE W w.heap.size (.slice p2 es.length c2) vs es) → (∃ vs, OwnT W w.heap.size (.slice p3 ns.length c3) vs ns) → Below w.heap.size w W → CopyMP ⟨kd, cl, rv, sq, fr, ls, rf, tx, ro, nx, ns, ed, es⟩ w (.returned (.agg #[.int .i64 kd, .int .i64 cl, .int .i64 rv, .int .i64 sq, .int .i64 fr, .int .i64 ls, .bool rf, .slice p1 ed.length c1, .slice p2 es.length c2, .string tx, .int .i64 ro, .int .i64 nx, .slice p3 ns.length c3])) W) := Lib.hid (fun p1 c1 p2 c2 p3 c3 W h1 h2 h3 h4 => ⟨⟨p1, c1, p2, c2, p3, c3⟩, rfl, ⟨h1, h2, h3⟩, h4⟩)
  unfold CopyCP at CE
  unfold CopyEP at CN
  unfold CopyT at CT
  unfold msV
  unfold trV at CT
  generalize CopyMP _ _ = G at FIN ⊢
  dsimp only at *
  generalize ed.length = en at *
  generalize es.length = sn at *
  generalize ns.length = nn at *
  go_enter Tryz.func5, Tryz.ntmps5
  go_upto_region 1 with fail
  have X0 : Hid (((w.alloc (.cells #[.int .i64 kd, .int .i64 cl, .int .i64 rv, .int .i64 sq, .int .i64 fr, .int .i64 ls, .bool rf, .slice ep en ec, .slice sp sn sc, .string tx, .int .i64 ro, .int .i64 nx, .slice np nn nc] 28)).alloc (.cells #[.int .i64 0, .int .i64 0, .int .i64 0, .int .i64 0, .int .i64 0, .int .i64 0, .bool false, .slice none 0 0, .slice none 0 0, .string ⟨#[]⟩, .int .i64 0, .int .i64 0, .slice none 0 0] 28)).heap[w.heap.size]? = some (.cells #[.int .i64 kd, .int .i64 cl, .int .i64 rv, .int .i64 sq, .int .i64 fr, .int .i64 ls, .bool rf, .slice ep en ec, .slice sp sn sc, .string tx, .int .i64 ro, .int .i64 nx, .slice np nn nc] 28 (0, 0))) := Lib.hid (heap_old (heap_alloc_new w _) _)
  have R0 : Hid (((w.alloc (.cells #[.int .i64 kd, .int .i64 cl, .int .i64 rv, .int .i64 sq, .int .i64 fr, .int .i64 ls, .bool rf, .slice ep en ec, .slice sp sn sc, .string tx, .int .i64 ro, .int .i64 nx, .slice np nn nc] 28)).alloc (.cells #[.int .i64 0, .int .i64 0, .int .i64 0, .int .i64 0, .int .i64 0, .int .i64 0, .bool false, .slice none 0 0, .slice none 0 0, .string ⟨#[]⟩, .int .i64 0, .int .i64 0, .slice none 0 0] 28)).heap[w.heap.size + 1]? = some (.cells #[.int .i64 0, .int .i64 0, .int .i64 0, .int .i64 0, .int .i64 0, .int .i64 0, .bool false, .slice none 0 0, .slice none 0 0, .string ⟨#[]⟩, .int .i64 0, .int .i64 0, .slice none 0 0] 28 (0, 0))) := Lib.hid (heap_new (by simp) _ _)
  have B0 : Hid (Bl w ((w.alloc (.cells #[.int .i64 kd, .int .i64 cl, .int .i64 rv, .int .i64 sq, .int .i64 fr, .int .i64 ls, .bool rf, .slice ep en ec, .slice sp sn sc, .string tx, .int .i64 ro, .int .i64 nx, .slice np nn nc] 28)).alloc (.cells #[.int .i64 0, .int .i64 0, .int .i64 0, .int .i64 0, .int .i64 0, .int .i64 0, .bool false, .slice none 0 0, .slice none 0 0, .string ⟨#[]⟩, .int .i64 0, .int .i64 0, .slice none 0 0] 28))) := Lib.hid (Bl.alloc (Bl.alloc (Bl.refl w) _) _)
  generalize (w.alloc (.cells #[.int .i64 kd, .int .i64 cl, .int .i64 rv, .int .i64 sq, .int .i64 fr, .int .i64 ls, .bool rf, .slice ep en ec, .slice sp sn sc, .string tx, .int .i64 ro, .int .i64 nx, .slice np nn nc] 28)).alloc (.cells #[.int .i64 0, .int .i64 0, .int .i64 0, .int .i64 0, .int .i64 0, .int .i64 0, .bool false, .slice none 0 0, .slice none 0 0, .string ⟨#[]⟩, .int .i64 0, .int .i64 0, .slice none 0 0] 28) = w0 at X0 R0 B0 ⊢
  obtain ⟨rb, hrb⟩ : ∃ rb, w.heap.size + 1 = rb := ⟨_, rfl⟩
  rw [hrb] at R0 ⊢
  obtain ⟨ab, hab⟩ : ∃ ab, w.heap.size = ab := ⟨_, rfl⟩
  rw [hab] at X0
  have NE : Hid (ab ≠ rb ∧ w.heap.size ≤ ab ∧ w.heap.size ≤ rb) := Lib.hid (by omega)
  rw [hab]
  clear hrb hab
  have y1 := (obj_cells X0.out).1 7 _ rfl
  go_upto_region 2 with (go_at_call 18; refine (CE.out _ B0.out).mono ?_; rintro e w1 ⟨p1, c1, rfl, ho, hb⟩; have O1 := Lib.hid ho; have B1 := Lib.hid hb; have X1 := Lib.hid (heap_later X0.out hb); have z1 := (obj_cells X1.out).1 7 _ rfl; have zf := (obj_cells X1.out).2.1 7; clear ho hb)
  have X2 : Hid ((w1.setCell ⟨ab, 7, none⟩ (.slice p1 en c1)).heap[ab]? = some (.cells #[.int .i64 kd, .int .i64 cl, .int .i64 rv, .int .i64 sq, .int .i64 fr, .int .i64 ls, .bool rf, .slice p1 en c1, .slice sp sn sc, .string tx, .int .i64 ro, .int .i64 nx, .slice np nn nc] 28 (0, 0))) := Lib.hid (by rw [heap_setCell_at X1.out]; rfl)
  have R2 := Lib.hid (box_kept (heap_later R0.out B1.out) (set_grown w1 ab 7 (.slice p1 en c1)) (Ne.symm NE.out.1))
  have B2 : Hid (Bl w (w1.setCell ⟨ab, 7, none⟩ (.slice p1 en c1))) := Lib.hid (below_set (B0.out.trans (Below.mono B1.out B0.out.size)) NE.out.2.1 _)
  have O2 := Lib.hid ((compsOwn_kept O1.out (set_grown w1 ab 7 (.slice p1 en c1)) X1.out (by decide)).mono B0.out.size)
  clear y1 z1 zf X0 R0 X1 O1 B1
  generalize w1.setCell ⟨ab, 7, none⟩ (.slice p1 en c1) = u2 at X2 R2 B2 O2 ⊢
  have y1 := (obj_cells X2.out).1 8 _ rfl
  go_upto_region 3 with (go_at_call 19; refine (CN.out _ B2.out).mono ?_; rintro e w3 ⟨p2, c2, vs2, rfl, ho, hb⟩; have O3 := Lib.hid ho; have B3 := Lib.hid hb; have X3 := Lib.hid (heap_later X2.out hb); have z1 := (obj_cells X3.out).1 8 _ rfl; have zf := (obj_cells X3.out).2.1 8; clear ho hb)
  have X4 : Hid ((w3.setCell ⟨ab, 8, none⟩ (.slice p2 sn c2)).heap[ab]? = some (.cells #[.int .i64 kd, .int .i64 cl, .int .i64 rv, .int .i64 sq, .int .i64 fr, .int .i64 ls, .bool rf, .slice p1 en c1, .slice p2 sn c2, .string tx, .int .i64 ro, .int .i64 nx, .slice np nn nc] 28 (0, 0))) := Lib.hid (by rw [heap_setCell_at X3.out]; rfl)
  have R4 := Lib.hid (box_kept (heap_later R2.out B3.out) (set_grown w3 ab 8 (.slice p2 sn c2)) (Ne.symm NE.out.1))
  have B4 : Hid (Bl w (w3.setCell ⟨ab, 8, none⟩ (.slice p2 sn c2))) := Lib.hid (below_set (B2.out.trans (Below.mono B3.out B2.out.size)) NE.out.2.1 _)
  have O4 := Lib.hid (compsOwn_kept (O2.out.below B3.out) (set_grown w3 ab 8 (.slice p2 sn c2)) X3.out (by decide))
  have P4 := Lib.hid ((O3.out.kept (set_grown w3 ab 8 (.slice p2 sn c2)) X3.out (by decide) (by decide) (by decide) (by decide)).mono B2.out.size)
  clear y1 z1 zf X2 R2 X3 O3 B3 O2
  generalize w3.setCell ⟨ab, 8, none⟩ (.slice p2 sn c2) = u4 at X4 R4 B4 O4 P4 ⊢
  have y1 := (obj_cells X4.out).1 10 _ rfl
  have y2 := (obj_cells X4.out).1 11 _ rfl
  have y3 := (obj_cells X4.out).1 12 _ rfl
  go_upto_region 4 with (go_at_call 20; refine (CT.out _ B4.out).mono ?_; rintro e w5 ⟨p3, c3, vs3, rfl, ho, hb⟩; have O5 := Lib.hid ho; have B5 := Lib.hid hb; have X5 := Lib.hid (heap_later X4.out hb); have z1 := (obj_cells X5.out).1 10 _ rfl; have z2 := (obj_cells X5.out).1 11 _ rfl; have z3 := (obj_cells X5.out).1 12 _ rfl; have zf := (obj_cells X5.out).2.1; clear ho hb)
  have gs := setAll_one w5 ab 10 [.int .i64 ro, .int .i64 nx, .slice p3 nn c3]
  have X6 : Hid ((((w5.setCell ⟨ab, 10, none⟩ (.int .i64 ro)).setCell ⟨ab, 11, none⟩ (.int .i64 nx)).setCell ⟨ab, 12, none⟩ (.slice p3 nn c3)).heap[ab]? = some (.cells #[.int .i64 kd, .int .i64 cl, .int .i64 rv, .int .i64 sq, .int .i64 fr, .int .i64 ls, .bool rf, .slice p1 en c1, .slice p2 sn c2, .string tx, .int .i64 ro, .int .i64 nx, .slice p3 nn c3] 28 (0, 0))) := Lib.hid (by rw [heap_setCell_at (heap_setCell_at (heap_setCell_at X5.out _) _)]; rfl)
  have R6 : Hid ((((w5.setCell ⟨ab, 10, none⟩ (.int .i64 ro)).setCell ⟨ab, 11, none⟩ (.int .i64 nx)).setCell ⟨ab, 12, none⟩ (.slice p3 nn c3)).heap[rb]? = _) := Lib.hid (box_kept (heap_later R4.out B5.out) gs (Ne.symm NE.out.1))
  have B6 : Hid (Bl w (((w5.setCell ⟨ab, 10, none⟩ (.int .i64 ro)).setCell ⟨ab, 11, none⟩ (.int .i64 nx)).setCell ⟨ab, 12, none⟩ (.slice p3 nn c3))) := Lib.hid (below_set (below_set (below_set (B4.out.trans (Below.mono B5.out B4.out.size)) NE.out.2.1 _) NE.out.2.1 _) NE.out.2.1 _)
  have O6 : Hid (lyC.Own (((w5.setCell ⟨ab, 10, none⟩ (.int .i64 ro)).setCell ⟨ab, 11, none⟩ (.int .i64 nx)).setCell ⟨ab, 12, none⟩ (.slice p3 nn c3)) w.heap.size (.slice p1 en c1) ed) := Lib.hid (compsOwn_kept (O4.out.below B5.out) gs X5.out (by decide))
  have P6 : Hid (OwnE (((w5.setCell ⟨ab, 10, none⟩ (.int .i64 ro)).setCell ⟨ab, 11, none⟩ (.int .i64 nx)).setCell ⟨ab, 12, none⟩ (.slice p3 nn c3)) w.heap.size (.slice p2 sn c2) vs2 es) := Lib.hid ((P4.out.below B5.out).kept gs X5.out (by decide) (by decide) (by decide) (by decide))
  have Q6 : Hid (OwnT (((w5.setCell ⟨ab, 10, none⟩ (.int .i64 ro)).setCell ⟨ab, 11, none⟩ (.int .i64 nx)).setCell ⟨ab, 12, none⟩ (.slice p3 nn c3)) w.heap.size (.slice p3 nn c3) vs3 ns) := Lib.hid ((O5.out.kept gs X5.out (by decide) (by decide)).mono B4.out.size)
  clear y1 y2 y3 z1 z2 z3 zf X4 R4 X5 O5 B5 O4 P4 gs
  generalize ((w5.setCell ⟨ab, 10, none⟩ (.int .i64 ro)).setCell ⟨ab, 11, none⟩ (.int .i64 nx)).setCell ⟨ab, 12, none⟩ (.slice p3 nn c3) = u6 at X6 R6 B6 O6 P6 Q6 ⊢
  have cx := (obj_cells X6.out).1
  have x0 := cx 0 _ rfl
  have x1 := cx 1 _ rfl
  have x2 := cx 2 _ rfl
  have x3 := cx 3 _ rfl
  have x4 := cx 4 _ rfl
  have x5 := cx 5 _ rfl
  have x6 := cx 6 _ rfl
  have x7 := cx 7 _ rfl
  have x8 := cx 8 _ rfl
  have x9 := cx 9 _ rfl
  have x10 := cx 10 _ rfl
  have x11 := cx 11 _ rfl
  have x12 := cx 12 _ rfl
  have cr := (obj_cells R6.out).1
  have r0 := cr 0 _ rfl
  have r1 := cr 1 _ rfl
  have r2 := cr 2 _ rfl
  have r3 := cr 3 _ rfl
  have r4 := cr 4 _ rfl
  have r5 := cr 5 _ rfl
  have r6 := cr 6 _ rfl
  have r7 := cr 7 _ rfl
  have r8 := cr 8 _ rfl
  have r9 := cr 9 _ rfl
  have r10 := cr 10 _ rfl
  have r11 := cr 11 _ rfl
  have r12 := cr 12 _ rfl
  have rf' := (obj_cells R6.out).2.1
  clear cx cr
  go_wp2_with fail
  refine bodyPost_ret (v := .agg #[.int .i64 kd, .int .i64 cl, .int .i64 rv, .int .i64 sq, .int .i64 fr, .int .i64 ls, .bool rf, .slice p1 en c1, .slice p2 sn c2, .string tx, .int .i64 ro, .int .i64 nx, .slice p3 nn c3]) (by rw [results_cell1 rfl]; go_simp) rfl ?_
  have gs := setAll_one u6 rb 0 [.int .i64 kd, .int .i64 cl, .int .i64 rv, .int .i64 sq, .int .i64 fr, .int .i64 ls, .bool rf, .slice p1 en c1, .slice p2 sn c2, .string tx, .int .i64 ro, .int .i64 nx, .slice p3 nn c3]
  exact FIN.out p1 c1 p2 c2 p3 c3 _ (compsOwn_kept O6.out gs R6.out (by decide)) ⟨vs2, P6.out.kept gs R6.out (by decide) (by decide) (by decide) (by decide)⟩ ⟨vs3, Q6.out.kept gs R6.out (by decide) (by decide)⟩ (B6.out.trans (below_grown gs NE.out.2.2 B6.out.size))

end Go.Proofs.YtjmfjlffcopnnaaGreatDoor

namespace Go.Proofs.YtjmfjlffcopnnaaGreatDoor
open Go.RowKit

set_option maxRecDepth 100000 in
set_option maxHeartbeats 8000000 in
theorem tkTree_any (s : ByteArray) (tb p : Nat) (bad : Bool) (w : World) (hs : s.size ≤ 1000000) (h : TkAt w tb s p bad) : Calls Tryz.prog 34 #[.pointer (some ⟨tb, 0, none⟩)] w (TreeT s tb p bad w) := by
  obtain ⟨i6, hi6, hz06, hz16, hz26⟩ := info_parts info63
  have T0 := Lib.hid h
  clear h
  go_enter Tryz.func34, Tryz.ntmps34
  go_upto_region 1 with fail
  have R0 : Hid ((w.alloc (.cells #[.int .i64 0, .int .i64 0, .slice none 0 0] 26)).heap[w.heap.size]? = some (.cells #[.int .i64 0, .int .i64 0, .slice none 0 0] 26 (0, 0))) := Lib.hid (heap_alloc_new w _)
  have T1 := Lib.hid (T0.out.kept (World.grownBy_alloc w (.cells #[.int .i64 0, .int .i64 0, .slice none 0 0] 26) none) (fun g e => by cases e))
  have W1 : Hid (w.grownBy (w.alloc (.cells #[.int .i64 0, .int .i64 0, .slice none 0 0] 26)) (some tb)) := Lib.hid (World.grownBy_alloc w _ _)
  have Z1 : Hid (w.heap.size < (w.alloc (.cells #[.int .i64 0, .int .i64 0, .slice none 0 0] 26)).heap.size) := Lib.hid (by simp)
  have NR : Hid (w.heap.size ≠ tb) := Lib.hid (T0.out.out_of (Nat.le_refl _))
  generalize w.alloc (.cells #[.int .i64 0, .int .i64 0, .slice none 0 0] 26) = w0 at R0 T1 W1 Z1 ⊢
  generalize hrb : w.heap.size = rb at R0 Z1 NR ⊢
  have RB := Lib.hid hrb
  clear hrb
  go_upto_region 2 with (go_at_call 29; refine (num_t s tb p bad w0 hs T1.out).mono ?_; rintro e va1 ⟨xa1, qa1, da1, rfl, he, hT, hg⟩; have Ea1 := Lib.hid he; have Sa1 := Lib.hid hT; have Ha1 := Lib.hid hg; clear he hT hg)
  have Ya1 : Hid ((va1.alloc (.cells #[.int .i64 xa1, .int .i64 0, .slice none 0 0] 26)).heap[va1.heap.size]? = some (.cells #[.int .i64 xa1, .int .i64 0, .slice none 0 0] 26 (0, 0))) := Lib.hid (heap_alloc_new va1 _)
  have Ta1 := Lib.hid (Sa1.out.kept (World.grownBy_alloc va1 (.cells #[.int .i64 xa1, .int .i64 0, .slice none 0 0] 26) none) (fun g e => by cases e))
  have Ga1 : Hid (w0.grownBy (va1.alloc (.cells #[.int .i64 xa1, .int .i64 0, .slice none 0 0] 26)) (some tb)) := Lib.hid (grown_trans Ha1.out (World.grownBy_alloc va1 _ (some tb)) (fun g e => .inl e))
  have La : Hid (w0.heap.size ≤ va1.heap.size) := Lib.hid Ha1.out.size
  have NEa : Hid (va1.heap.size ≠ tb) := Lib.hid (Sa1.out.out_of (Nat.le_refl _))
  clear Sa1 Ha1
  generalize va1.alloc (.cells #[.int .i64 xa1, .int .i64 0, .slice none 0 0] 26) = ua1 at Ya1 Ta1 Ga1 ⊢
  generalize hyb : va1.heap.size = ba at Ya1 La NEa ⊢
  clear hyb
  go_upto_region 3 with (go_at_call 29; refine (num_t s tb qa1 da1 ua1 hs Ta1.out).mono ?_; rintro e va2 ⟨xa2, qa2, da2, rfl, he, hT, hg⟩; have Ea2 := Lib.hid he; have Sa2 := Lib.hid hT; have Ha2 := Lib.hid hg; have Xa2 := Lib.hid (box_kept Ya1.out hg NEa.out); have ca_1 := (obj_cells Xa2.out).1 1 _ rfl; have fa := (obj_cells Xa2.out).2.1 1; clear he hT hg)
  have Ya2 : Hid ((va2.setCell ⟨ba, 1, none⟩ (.int .i64 xa2)).heap[ba]? = some (.cells #[.int .i64 xa1, .int .i64 xa2, .slice none 0 0] 26 (0, 0))) := Lib.hid (by rw [heap_setCell_at Xa2.out]; rfl)
  have Ta2 : Hid (TkAt (va2.setCell ⟨ba, 1, none⟩ (.int .i64 xa2)) tb s qa2 da2) := Lib.hid (Sa2.out.kept (set_grown va2 ba 1 (.int .i64 xa2)) (fun g e => by cases e; exact NEa.out))
  have Ga2 : Hid (w0.grownBy (va2.setCell ⟨ba, 1, none⟩ (.int .i64 xa2)) (some tb)) := Lib.hid (grown_trans (grown_trans Ga1.out Ha2.out (fun g e => .inl e)) (set_grown va2 ba 1 (.int .i64 xa2)) (fun g e => by cases e; exact .inr La.out))
  clear Sa2 Ha2 Xa2 ca_1 fa
  generalize va2.setCell ⟨ba, 1, none⟩ (.int .i64 xa2) = ua2 at Ya2 Ta2 Ga2 ⊢
  clear Ya1 Ta1 Ga1
  go_upto_region 4 with (go_at_call 31; refine (count_t s tb qa2 da2 ua2 hs Ta2.out).mono ?_; rintro e w3 ⟨K, q3, d3, rfl, hK, he, hT, hg⟩; have E3 := Lib.hid he; have T3 := Lib.hid hT; have H3 := Lib.hid hg; clear he hT hg)
  have G3 : Hid (w0.grownBy w3 (some tb)) := Lib.hid (grown_trans Ga2.out H3.out (fun g e => .inl e))
  have C0 : Hid (TT w w3 s tb q3 d3 rb ba xa1 xa2 [] (.slice none 0 0) []) := Lib.hid ⟨T3.out, box_kept R0.out G3.out NR.out, box_kept Ya2.out H3.out NEa.out, ownT_none _ _, grown_trans W1.out G3.out (fun g e => .inl e), by rw [RB.out]; exact Nat.le_refl _, by have := La.out; have := Z1.out; have := RB.out; omega, by have := La.out; have := Z1.out; omega⟩
  obtain ⟨r, hr⟩ : ∃ r, pRow pNode K [] (fromL s q3, d3) = r := ⟨_, rfl⟩
  have HR := Lib.hid hr
  have TE : Hid (pTree (fromL s p, bad) = ((xa1, xa2, r.1), r.2)) := Lib.hid (tree_eq Ea1.out Ea2.out E3.out (by rw [hr]))
  clear hr Ea1 Ea2 E3 T0 R0 T1 Ta2 Ya2 Ga2 H3 G3 T3 W1 Z1 NR La NEa
  go_wp2_with fail
  go_loopw [5] (fun a wr => ∃ (i p2 : Nat) (b2 : Bool) (acc : List Nd) (nv : Value) (vs : List Nv), i ≤ K ∧ a = .int .i64 i ∧ Hid (acc.length = i) ∧ Hid (pRow pNode (K - i) acc (fromL s p2, b2) = r) ∧ Hid (TT w wr s tb p2 b2 rb ba xa1 xa2 acc nv vs)) (fun a _ => K - (intOf a).toNat)
  case atStart => exact ⟨0, q3, d3, [], _, _, by omega, rfl, Lib.hid rfl, HR, C0⟩
  case round =>
    clear C0 HR
    obtain ⟨i, p2, b2, acc, nv, vs, h1, rfl, AL, H, C⟩ := hrel
    have c2 : wr.cell? ⟨tb, 2, none⟩ = some (.bool b2) := (obj_cells C.out.tk.obj).1 2 _ rfl
    obtain ⟨pv, cv, rfl⟩ := C.out.own.row.form
    have HL : Hid (vs.length = i) := Lib.hid (by rw [C.out.own.len]; exact AL.out)
    rw [HL.out] at C
    by_cases q1 : i < K ∧ b2 = false
    · obtain ⟨q1, rfl⟩ := q1
      go_upto_region 7 with fail
      have C1 := C
      clear c2 C
      go_upto_region 8 with (go_at_call 29; refine (num_t s tb p2 false wr hs C1.out.tk).mono ?_; rintro e vn1 ⟨xn1, qn1, dn1, rfl, he, hT, hg⟩; have En1 := Lib.hid he; have Sn1 := Lib.hid hT; have Hn1 := Lib.hid hg; clear he hT hg)
      have Yn1 : Hid ((vn1.alloc (.cells #[.int .i64 xn1, .int .i64 0, .int .i64 0, .int .i64 0, .slice none 0 0] 109)).heap[vn1.heap.size]? = some (.cells #[.int .i64 xn1, .int .i64 0, .int .i64 0, .int .i64 0, .slice none 0 0] 109 (0, 0))) := Lib.hid (heap_alloc_new vn1 _)
      have Tn1 := Lib.hid (Sn1.out.kept (World.grownBy_alloc vn1 (.cells #[.int .i64 xn1, .int .i64 0, .int .i64 0, .int .i64 0, .slice none 0 0] 109) none) (fun g e => by cases e))
      have Gn1 : Hid (wr.grownBy (vn1.alloc (.cells #[.int .i64 xn1, .int .i64 0, .int .i64 0, .int .i64 0, .slice none 0 0] 109)) (some tb)) := Lib.hid (grown_trans Hn1.out (World.grownBy_alloc vn1 _ (some tb)) (fun g e => .inl e))
      have Ln : Hid (wr.heap.size ≤ vn1.heap.size) := Lib.hid Hn1.out.size
      have NEn : Hid (vn1.heap.size ≠ tb) := Lib.hid (Sn1.out.out_of (Nat.le_refl _))
      clear Sn1 Hn1
      generalize vn1.alloc (.cells #[.int .i64 xn1, .int .i64 0, .int .i64 0, .int .i64 0, .slice none 0 0] 109) = un1 at Yn1 Tn1 Gn1 ⊢
      generalize hyb : vn1.heap.size = bn at Yn1 Ln NEn ⊢
      clear hyb
      go_upto_region 9 with (go_at_call 29; refine (num_t s tb qn1 dn1 un1 hs Tn1.out).mono ?_; rintro e vn2 ⟨xn2, qn2, dn2, rfl, he, hT, hg⟩; have En2 := Lib.hid he; have Sn2 := Lib.hid hT; have Hn2 := Lib.hid hg; have Xn2 := Lib.hid (box_kept Yn1.out hg NEn.out); have cn_1 := (obj_cells Xn2.out).1 1 _ rfl; have fn := (obj_cells Xn2.out).2.1 1; clear he hT hg)
      have Yn2 : Hid ((vn2.setCell ⟨bn, 1, none⟩ (.int .i64 xn2)).heap[bn]? = some (.cells #[.int .i64 xn1, .int .i64 xn2, .int .i64 0, .int .i64 0, .slice none 0 0] 109 (0, 0))) := Lib.hid (by rw [heap_setCell_at Xn2.out]; rfl)
      have Tn2 : Hid (TkAt (vn2.setCell ⟨bn, 1, none⟩ (.int .i64 xn2)) tb s qn2 dn2) := Lib.hid (Sn2.out.kept (set_grown vn2 bn 1 (.int .i64 xn2)) (fun g e => by cases e; exact NEn.out))
      have Gn2 : Hid (wr.grownBy (vn2.setCell ⟨bn, 1, none⟩ (.int .i64 xn2)) (some tb)) := Lib.hid (grown_trans (grown_trans Gn1.out Hn2.out (fun g e => .inl e)) (set_grown vn2 bn 1 (.int .i64 xn2)) (fun g e => by cases e; exact .inr Ln.out))
      clear Sn2 Hn2 Xn2 cn_1 fn
      generalize vn2.setCell ⟨bn, 1, none⟩ (.int .i64 xn2) = un2 at Yn2 Tn2 Gn2 ⊢
      clear Yn1 Tn1 Gn1
      go_upto_region 10 with (go_at_call 29; refine (num_t s tb qn2 dn2 un2 hs Tn2.out).mono ?_; rintro e vn3 ⟨xn3, qn3, dn3, rfl, he, hT, hg⟩; have En3 := Lib.hid he; have Sn3 := Lib.hid hT; have Hn3 := Lib.hid hg; have Xn3 := Lib.hid (box_kept Yn2.out hg NEn.out); have cn_2 := (obj_cells Xn3.out).1 2 _ rfl; have fn := (obj_cells Xn3.out).2.1 2; clear he hT hg)
      have Yn3 : Hid ((vn3.setCell ⟨bn, 2, none⟩ (.int .i64 xn3)).heap[bn]? = some (.cells #[.int .i64 xn1, .int .i64 xn2, .int .i64 xn3, .int .i64 0, .slice none 0 0] 109 (0, 0))) := Lib.hid (by rw [heap_setCell_at Xn3.out]; rfl)
      have Tn3 : Hid (TkAt (vn3.setCell ⟨bn, 2, none⟩ (.int .i64 xn3)) tb s qn3 dn3) := Lib.hid (Sn3.out.kept (set_grown vn3 bn 2 (.int .i64 xn3)) (fun g e => by cases e; exact NEn.out))
      have Gn3 : Hid (wr.grownBy (vn3.setCell ⟨bn, 2, none⟩ (.int .i64 xn3)) (some tb)) := Lib.hid (grown_trans (grown_trans Gn2.out Hn3.out (fun g e => .inl e)) (set_grown vn3 bn 2 (.int .i64 xn3)) (fun g e => by cases e; exact .inr Ln.out))
      clear Sn3 Hn3 Xn3 cn_2 fn
      generalize vn3.setCell ⟨bn, 2, none⟩ (.int .i64 xn3) = un3 at Yn3 Tn3 Gn3 ⊢
      clear Yn2 Tn2 Gn2
      go_upto_region 11 with (go_at_call 29; refine (num_t s tb qn3 dn3 un3 hs Tn3.out).mono ?_; rintro e vn4 ⟨xn4, qn4, dn4, rfl, he, hT, hg⟩; have En4 := Lib.hid he; have Sn4 := Lib.hid hT; have Hn4 := Lib.hid hg; have Xn4 := Lib.hid (box_kept Yn3.out hg NEn.out); have cn_3 := (obj_cells Xn4.out).1 3 _ rfl; have fn := (obj_cells Xn4.out).2.1 3; clear he hT hg)
      have Yn4 : Hid ((vn4.setCell ⟨bn, 3, none⟩ (.int .i64 xn4)).heap[bn]? = some (.cells #[.int .i64 xn1, .int .i64 xn2, .int .i64 xn3, .int .i64 xn4, .slice none 0 0] 109 (0, 0))) := Lib.hid (by rw [heap_setCell_at Xn4.out]; rfl)
      have Tn4 : Hid (TkAt (vn4.setCell ⟨bn, 3, none⟩ (.int .i64 xn4)) tb s qn4 dn4) := Lib.hid (Sn4.out.kept (set_grown vn4 bn 3 (.int .i64 xn4)) (fun g e => by cases e; exact NEn.out))
      have Gn4 : Hid (wr.grownBy (vn4.setCell ⟨bn, 3, none⟩ (.int .i64 xn4)) (some tb)) := Lib.hid (grown_trans (grown_trans Gn3.out Hn4.out (fun g e => .inl e)) (set_grown vn4 bn 3 (.int .i64 xn4)) (fun g e => by cases e; exact .inr Ln.out))
      clear Sn4 Hn4 Xn4 cn_3 fn
      generalize vn4.setCell ⟨bn, 3, none⟩ (.int .i64 xn4) = un4 at Yn4 Tn4 Gn4 ⊢
      clear Yn3 Tn3 Gn3
      go_upto_region 12 with (go_at_call 84; refine (nums_t s tb qn4 dn4 un4 hs Tn4.out).mono ?_; rintro e vn5 ⟨kpn, kcn, ln, qn5, dn5, rfl, hO, he, hT, hg⟩; have En5 := Lib.hid he; have Sn5 := Lib.hid hT; have Hn5 := Lib.hid hg; have On5 := Lib.hid hO; clear hO; obtain ⟨knn, hkn⟩ : ∃ kn, ln.length = kn := ⟨_, rfl⟩; rw [hkn] at On5; rw [hkn]; have KNn := Lib.hid hkn; clear hkn; have Xn5 := Lib.hid (box_kept Yn4.out hg NEn.out); have cn_4 := (obj_cells Xn5.out).1 4 _ rfl; have fn := (obj_cells Xn5.out).2.1 4; clear he hT hg)
      have Yn5 : Hid ((vn5.setCell ⟨bn, 4, none⟩ (.slice kpn knn kcn)).heap[bn]? = some (.cells #[.int .i64 xn1, .int .i64 xn2, .int .i64 xn3, .int .i64 xn4, .slice kpn knn kcn] 109 (0, 0))) := Lib.hid (by rw [heap_setCell_at Xn5.out]; rfl)
      have Tn5 : Hid (TkAt (vn5.setCell ⟨bn, 4, none⟩ (.slice kpn knn kcn)) tb s qn5 dn5) := Lib.hid (Sn5.out.kept (set_grown vn5 bn 4 (.slice kpn knn kcn)) (fun g e => by cases e; exact NEn.out))
      have Gn5 : Hid (wr.grownBy (vn5.setCell ⟨bn, 4, none⟩ (.slice kpn knn kcn)) (some tb)) := Lib.hid (grown_trans (grown_trans Gn4.out Hn5.out (fun g e => .inl e)) (set_grown vn5 bn 4 (.slice kpn knn kcn)) (fun g e => by cases e; exact .inr Ln.out))
      have Kn5 : Hid (lyI.Own (vn5.setCell ⟨bn, 4, none⟩ (.slice kpn knn kcn)) un4.heap.size (.slice kpn knn kcn) ln) := Lib.hid (by
        have h6 : lyI.Own vn5 un4.heap.size (.slice kpn knn kcn) ln := On5.out
        exact h6.kept (set_grown ..) (fun g hg e => by
          have h7 := (h6.lt hg).1
          have h8 := (Array.getElem?_eq_some_iff.1 Yn4.out).1
          have h9 := Option.some.inj e
          omega))
      have Bn5 : Hid (wr.heap.size ≤ un4.heap.size) := Lib.hid Gn4.out.size
      clear Sn5 Hn5 Xn5 cn_4 fn On5
      generalize vn5.setCell ⟨bn, 4, none⟩ (.slice kpn knn kcn) = un5 at Yn5 Tn5 Gn5 Kn5 ⊢
      generalize hus : un4.heap.size = usn5 at Kn5 Bn5
      clear hus
      clear Yn4 Tn4 Gn4
      have NEQ : Hid (pNode (fromL s p2, false) = (⟨xn1, xn2, xn3, xn4, ln⟩, (fromL s qn5, dn5))) := Lib.hid (node_eq En1.out En2.out En3.out En4.out En5.out)
      have H2 : Hid (pRow pNode (K - (i + 1)) (acc ++ [⟨xn1, xn2, xn3, xn4, ln⟩]) (fromL s qn5, dn5) = r) := Lib.hid (by rw [← H.out]; exact (row_next (by omega) NEQ.out).symm)
      clear NEQ H En1 En2 En3 En4 En5
      have C7 := Lib.hid (C1.out.go Gn5.out Tn5.out)
      have AP : Hid (∀ (k : Nat) y g, vs[k]? = some y → y.kv.ownBlock = some g → g < wr.heap.size) := Lib.hid (fun k y g hy hg => by
        obtain ⟨m, hm⟩ : ∃ m, acc[k]? = some m := ⟨_, List.getElem?_eq_getElem (by rw [← C1.out.own.len]; exact (List.getElem?_eq_some_iff.1 hy).1)⟩
        exact ((C1.out.own.fit k y m hy hm).2.2.2.2.lt hg).2)
      have SZ : Hid (w.heap.size ≤ wr.heap.size) := Lib.hid C1.out.grown.size
      have x0 := (obj_cells Yn5.out).1 0 _ rfl
      have x1 := (obj_cells Yn5.out).1 1 _ rfl
      have x2 := (obj_cells Yn5.out).1 2 _ rfl
      have x3 := (obj_cells Yn5.out).1 3 _ rfl
      have x4 := (obj_cells Yn5.out).1 4 _ rfl
      have bb2 := (obj_cells C7.out.boxX).1 2 _ rfl
      have BA : Hid (Below un5.heap.size un5 (un5.alloc (.cells #[.int .i64 xn1, .int .i64 xn2, .int .i64 xn3, .int .i64 xn4, .slice kpn knn kcn] 109))) := Lib.hid (below1 (Below.refl _ _) (Nat.le_refl _) _)
      have OWN : Hid ((un5.alloc (.cells #[.int .i64 xn1, .int .i64 xn2, .int .i64 xn3, .int .i64 xn4, .slice kpn knn kcn] 109)).ownsRow w.heap.size 109 5 (.slice pv i cv) i (lyN.all vs)) := Lib.hid (by
        have := C7.out.own.row.below BA.out
        unfold Ly.Own at this
        rw [HL.out] at this
        exact this)
      have C8 := Lib.hid (C7.out.go (grown_of_below BA.out (some tb)) (Tn5.out.kept (grown_of_below BA.out none) (fun g e => by cases e)))
      have K8 := Lib.hid (Kn5.out.below BA.out)
      clear C1 Gn5 Tn5 C7 Kn5 Yn5
      go_wp2_with (at_builtin; refine wpList_append_all _ rfl _ _ 24 rfl w.heap.size 109 i6 _ 5 56 Tryz.underlying24 hi6 hz06 hz16 hz26 rfl (by decide) (.slice pv i cv) i (lyN.all vs) rfl OWN.out (some ⟨un5.heap.size, 0, none⟩) 1 1 (Nv.cells ⟨xn1, xn2, xn3, xn4, kpn, knn, kcn⟩) rfl rfl (fun e => by cases e) (fun ad hp => by cases hp; exact five_new rfl ⟨xn1, xn2, xn3, xn4, kpn, knn, kcn⟩) (lyN.one ⟨xn1, xn2, xn3, xn4, kpn, knn, kcn⟩) (by unfold maxLen; omega) (by omega) C8.out.grown.size (i + 1) rfl ?_; intro p9 c9 w9 hown9 hgrow9 hblk9; have G9 := Lib.hid hgrow9; have O9 := Lib.hid hown9; have b9 := box_staysN C8.out.own.row hgrow9 C8.out.boxX (by decide); have bc := (obj_cells b9).1 2 _ rfl; have bf := (obj_cells b9).2.1; clear hown9 hgrow9 hblk9 b9)
      go_roundw
      case rel =>
        refine ⟨i + 1, qn5, dn5, acc ++ [⟨xn1, xn2, xn3, xn4, ln⟩], .slice p9 (i + 1) c9, vs ++ [⟨xn1, xn2, xn3, xn4, kpn, knn, kcn⟩], by omega, by go_num, Lib.hid (by rw [List.length_append, AL.out]; rfl), H2, Lib.hid ?_⟩
        refine C8.out.push G9.out ⟨xn1, xn2, xn3, xn4, kpn, knn, kcn⟩ ⟨xn1, xn2, xn3, xn4, ln⟩ ⟨rfl, rfl, rfl, rfl, K8.out.mono (Nat.le_trans SZ.out Bn5.out)⟩ (fun k y g hy hg e => ?_) ?_
        · have h1 := AP.out k y g hy hg
          have h2 := (K8.out.lt (g := g) e).1
          have h3 := Bn5.out
          omega
        · unfold Ly.Own
          rw [List.length_append, HL.out, List.length_singleton, all_app, all_one]
          exact O9.out
      case measure => simp [intOf]; omega
    · have RD : Hid (r = (acc, fromL s p2, b2)) := Lib.hid (by
        rw [← H.out]
        exact row_done (by
          by_cases q2 : i < K
          · right
            cases b2 with
            | true => rfl
            | false => exact absurd ⟨q2, rfl⟩ q1
          · left; omega))
      have b0 := (obj_cells C.out.boxX).1 0 _ rfl
      have b1 := (obj_cells C.out.boxX).1 1 _ rfl
      have bx2 := (obj_cells C.out.boxX).1 2 _ rfl
      have r0 := (obj_cells C.out.boxR).1 0 _ rfl
      have r1 := (obj_cells C.out.boxR).1 1 _ rfl
      have r2 := (obj_cells C.out.boxR).1 2 _ rfl
      have rf := (obj_cells C.out.boxR).2.1
      have FIN : Hid (TreeT s tb p bad w (.returned (.agg #[.int .i64 xa1, .int .i64 xa2, .slice pv i cv])) (setAll wr rb 0 [.int .i64 xa1, .int .i64 xa2, .slice pv i cv])) := Lib.hid (by
        have g2 := setAll_one wr rb 0 [.int .i64 xa1, .int .i64 xa2, .slice pv i cv]
        refine ⟨xa1, xa2, pv, cv, vs, acc, p2, b2, by rw [AL.out]; rfl, by rw [TE.out, RD.out], ?_, C.out.tk.kept g2 (fun g e => by cases e; exact type_ne C.out.boxR C.out.tk.obj (by decide)), grown_trans C.out.grown g2 (fun g e => by cases e; exact .inr C.out.newR)⟩
        rw [AL.out]
        exact C.out.own.kept g2 C.out.boxR (by decide) (by decide))
      by_cases q2 : i < K
      · have q3 : b2 = true := by
          cases b2 with
          | true => rfl
          | false => exact absurd ⟨q2, rfl⟩ q1
        subst q3
        clear q1
        go_wp2_with fail
        refine bodyPost_ret (v := .agg #[.int .i64 xa1, .int .i64 xa2, .slice pv i cv]) (by rw [results_cell1 rfl]; go_simp) rfl ?_
        exact FIN.out
      · clear q1
        go_wp2_with fail
        refine bodyPost_ret (v := .agg #[.int .i64 xa1, .int .i64 xa2, .slice pv i cv]) (by rw [results_cell1 rfl]; go_simp) rfl ?_
        exact FIN.out

end Go.Proofs.YtjmfjlffcopnnaaGreatDoor
