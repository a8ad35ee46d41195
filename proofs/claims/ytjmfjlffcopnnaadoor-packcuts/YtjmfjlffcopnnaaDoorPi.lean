/-
  The program's Put, whole: the walk, and what it answers. Conditions: as each theorem's premises say.
-/
import Derived.Test.YtjmfjlffcopnnaaDoorPh
import Derived.Test.YtjmfjlffcopnnaaDoorQv
import Derived.Test.YtjmfjlffcopnnaaDoorM25
namespace Go.Proofs.YtjmfjlffcopnnaaDoor
open Go.RowKit
open Go.Proofs.YtjmfjlffcopnnaaDoor.K (C RowC PieceAt MayP)

theorem back_row {w : World} {B g n cap : Nat} {l : List UInt8} (h : w.ownsRow B 5 1 (.slice (some ⟨g, 0, none⟩) n cap) n (Lib.byteCells l)) (hn : l.length = n) : (convert 49 9 (.slice (some ⟨g, 0, none⟩) n cap)).run Tryd.prog w = .ok (.string ⟨l.toArray⟩) w := by
  subst hn
  refine run_convert_bytes_back (P := Tryd.prog) w 49 9 5 ⟨g, 0, none⟩ cap l Tryd.underlying49 Tryd.underlying5 Tryd.underlying9 fun j hj => ?_
  exact World.ownsRow.cells h rfl j _ (by simp [Lib.byteCells, List.getElem?_eq_getElem hj])
theorem may_text_len {m : Ms} (hm : MsMay m) : (msgC m []).length ≤ 70368744177664 := by
  obtain ⟨f1, f2, f3, f4, f5, f6⟩ := hm.1
  have n1 := num_len (n := m.cl) f1 (by omega)
  have n2 := num_len (n := m.rv) f3 (by omega)
  have n3 := num_len (n := m.sq) f5 (by omega)
  rcases hm.2 with h | h | ⟨h, _, _, g3, g4, g5, g6, g7, g8⟩
  · rw [msg_poll h.1]
    have := comps_len h.2.2.2.1
    simp only [List.length_append, List.length_singleton]
    omega
  · rw [msg_changes h.1]
    have h1 := row_len ent_app (M := 400000000) (fun e he => (may_entry (h.2.2.2.2.2 e he)).2)
    have h2 := Nat.mul_le_mul_right 400000000 h.2.2.2.2.1
    have h3 := num_len (n := (m.es.length : Int)) (by omega) (by have := h.2.2.2.2.1; omega)
    simp only [List.length_append, List.length_singleton]
    omega
  · rw [msg_snap h]
    have h1 := tree_len g8
    have h2 := str_len (bytesOf m.tx) (by rw [bytes_len]; omega)
    rw [bytes_len] at h2
    have n4 := num_len (n := m.fr) g3 (by omega)
    have n5 := num_len (n := m.ls) g5 (by omega)
    have n6 : (numC (if m.rf then 1 else 0) []).length ≤ 20 := by cases m.rf <;> exact num_len (by decide) (by decide)
    simp only [List.length_append, List.length_singleton]
    omega
theorem PX.new {w0 w : World} (TB : Tb w0) (hb : Below w0.heap.size w0 w) {pb : Nat} (hp : w0.heap.size ≤ pb) (h : w.heap[pb]? = some (.cells #[.slice none 0 0] 51 (0, 0))) : PX w w0.heap.size pb [] :=
  ⟨[], ⟨Nat.le_refl _, .inl rfl⟩, ⟨⟨_, h, ⟨rfl, .inl ⟨rfl, rfl⟩⟩⟩, hp, (Lib.tabBelow_of_tabIs TB).on hb⟩⟩

set_option maxRecDepth 100000 in
set_option maxHeartbeats 8000000 in
theorem qput_any : PutPr := by
  intro m q w TB hz hr
  have MY : Hid (∀ W, Below w.heap.size w W → Calls Tryd.prog 10 #[msV m q] W (Tells (MsMay m) W)) := Lib.hid (fun W hW => qmay_any m q W hz (hr.below hW))
  by_cases hm : MsMay m
  case neg =>
    have HM := Lib.hid hm
    unfold PutD
    rw [(put_not (m := m) (fun h => hm h.1)).1, (put_not (m := m) (fun h => hm h.1)).2]
    clear hm hr hz TB
    generalize MsMay m = P at MY HM
    unfold msV at MY ⊢
    go_enter Tryd.func6, Tryd.ntmps6
    go_wp2_with (go_at_call 10; refine (MY.out _ ((Below.refl w.heap.size w).alloc (Nat.le_refl _) _)).mono ?_; rintro e w2 ⟨hb, ⟨rfl, hy⟩ | ⟨rfl, hy⟩⟩; exact absurd hy HM.out; have B2 := Lib.hid hb; clear hb hy)
    go_ret2
    exact ⟨rfl, ((Below.refl w.heap.size w).alloc (Nat.le_refl _) _).trans (B2.out.mono (by simp))⟩
  have HM := Lib.hid hm
  have MG : Hid (∀ pb W, Below w.heap.size w W → PX W w.heap.size pb [] → Calls Tryd.prog 11 #[.pointer (some ⟨pb, 0, none⟩), msV m q] W (PutS w.heap.size pb (msgC m []) W)) := Lib.hid (fun pb W hW hX => pmsg_any w m q hm hr pb [] W hW hX (may_text_len hm))
  have NX : Hid (∀ pb W, Below w.heap.size w W → w.heap.size ≤ pb → W.heap[pb]? = some (.cells #[.slice none 0 0] 51 (0, 0)) → PX W w.heap.size pb []) := Lib.hid (fun pb W hW hp h => PX.new TB hW hp h)
  have PN : Hid (1000000 < (msgC m []).length → putZ m = ⟨#[]⟩ ∧ putE m = 1700) := Lib.hid (fun h => put_not (fun g => by have := g.2; omega))
  have PY : Hid (¬ 1000000 < (msgC m []).length → putZ m = ⟨(msgC m []).toArray⟩ ∧ putE m = 0) := Lib.hid (fun h => ⟨by unfold putZ; rw [if_pos ⟨hm, by omega⟩], (put_yes ⟨hm, by omega⟩).2.1⟩)
  have HNE := Lib.hid (msg_ne m)
  unfold PutD
  clear hm hr hz TB
  generalize MsMay m = P at MY HM
  generalize msgC m [] = E at MG PN PY HNE
  generalize putZ m = z at PN PY ⊢
  generalize putE m = er at PN PY ⊢
  unfold msV at MY MG ⊢
  obtain ⟨B, hB⟩ : ∃ B, w.heap.size = B := ⟨_, rfl⟩
  have HE := Lib.hid hB
  rw [hB] at MY MG NX ⊢
  clear hB
  go_enter Tryd.func6, Tryd.ntmps6
  go_upto_region 1 with fail
  have HX : Hid ((w.alloc (.cells #[.int .i64 m.kd, .int .i64 m.cl, .int .i64 m.rv, .int .i64 m.sq, .int .i64 m.fr, .int .i64 m.ls, .bool m.rf, .slice q.ep m.ed.length q.ec, .slice q.sp m.es.length q.sc, .string m.tx, .int .i64 m.ro, .int .i64 m.nx, .slice q.np m.ns.length q.nc] 28)).heap[w.heap.size]? = some (.cells #[.int .i64 m.kd, .int .i64 m.cl, .int .i64 m.rv, .int .i64 m.sq, .int .i64 m.fr, .int .i64 m.ls, .bool m.rf, .slice q.ep m.ed.length q.ec, .slice q.sp m.es.length q.sc, .string m.tx, .int .i64 m.ro, .int .i64 m.nx, .slice q.np m.ns.length q.nc] 28 (0, 0))) := Lib.hid (heap_alloc_new w _)
  have B1 : Hid (Below B w (w.alloc (.cells #[.int .i64 m.kd, .int .i64 m.cl, .int .i64 m.rv, .int .i64 m.sq, .int .i64 m.fr, .int .i64 m.ls, .bool m.rf, .slice q.ep m.ed.length q.ec, .slice q.sp m.es.length q.sc, .string m.tx, .int .i64 m.ro, .int .i64 m.nx, .slice q.np m.ns.length q.nc] 28))) := Lib.hid ((Below.refl B w).alloc (by rw [HE.out]; exact Nat.le_refl _) _)
  generalize w.alloc (.cells #[.int .i64 m.kd, .int .i64 m.cl, .int .i64 m.rv, .int .i64 m.sq, .int .i64 m.fr, .int .i64 m.ls, .bool m.rf, .slice q.ep m.ed.length q.ec, .slice q.sp m.es.length q.sc, .string m.tx, .int .i64 m.ro, .int .i64 m.nx, .slice q.np m.ns.length q.nc] 28) = w1 at HX B1 ⊢
  rw [HE.out] at HX ⊢
  have a0 := (obj_cells HX.out).1 0 _ rfl
  have a1 := (obj_cells HX.out).1 1 _ rfl
  have a2 := (obj_cells HX.out).1 2 _ rfl
  have a3 := (obj_cells HX.out).1 3 _ rfl
  have a4 := (obj_cells HX.out).1 4 _ rfl
  have a5 := (obj_cells HX.out).1 5 _ rfl
  have a6 := (obj_cells HX.out).1 6 _ rfl
  have a7 := (obj_cells HX.out).1 7 _ rfl
  have a8 := (obj_cells HX.out).1 8 _ rfl
  have a9 := (obj_cells HX.out).1 9 _ rfl
  have a10 := (obj_cells HX.out).1 10 _ rfl
  have a11 := (obj_cells HX.out).1 11 _ rfl
  have a12 := (obj_cells HX.out).1 12 _ rfl
  go_upto_region 3 with (go_at_call 10; refine (MY.out _ B1.out).mono ?_; rintro e w2 ⟨hb, ⟨rfl, hy⟩ | ⟨rfl, hy⟩⟩; rotate_left; exact absurd HM.out hy; have H2 := Lib.hid hb; clear hb hy)
  clear a0 a1 a2 a3 a4 a5 a6 a7 a8 a9 a10 a11 a12
  go_upto_region 4 with fail
  have HX2 : Hid ((w2.alloc (.cells #[.slice none 0 0] 51)).heap[B]? = some (.cells #[.int .i64 m.kd, .int .i64 m.cl, .int .i64 m.rv, .int .i64 m.sq, .int .i64 m.fr, .int .i64 m.ls, .bool m.rf, .slice q.ep m.ed.length q.ec, .slice q.sp m.es.length q.sc, .string m.tx, .int .i64 m.ro, .int .i64 m.nx, .slice q.np m.ns.length q.nc] 28 (0, 0))) := Lib.hid (heap_old (heap_later HX.out H2.out) _)
  have HP2 : Hid ((w2.alloc (.cells #[.slice none 0 0] 51)).heap[w2.heap.size]? = some (.cells #[.slice none 0 0] 51 (0, 0))) := Lib.hid (heap_alloc_new w2 _)
  have B2 : Hid (Below B w (w2.alloc (.cells #[.slice none 0 0] 51))) := Lib.hid ((B1.out.trans (Below.mono H2.out (by have h1 := B1.out.size; have h2 := HE.out; omega))).alloc (by have h1 := B1.out.size; have h2 := HE.out; have h3 := H2.out.size; omega) _)
  have S2 : Hid (B ≤ w2.heap.size) := Lib.hid (by have h1 := B1.out.size; have h2 := HE.out; have h3 := H2.out.size; omega)
  clear HX B1 H2
  generalize w2.alloc (.cells #[.slice none 0 0] 51) = w3 at HX2 HP2 B2 ⊢
  obtain ⟨pb, hpb⟩ : ∃ b, w2.heap.size = b := ⟨_, rfl⟩
  rw [hpb] at HP2 S2 ⊢
  clear hpb
  have CC := Lib.hid (MG.out pb w3 B2.out (NX.out pb w3 B2.out S2.out HP2.out))
  clear NX MG MY HM
  have a0 := (obj_cells HX2.out).1 0 _ rfl
  have a1 := (obj_cells HX2.out).1 1 _ rfl
  have a2 := (obj_cells HX2.out).1 2 _ rfl
  have a3 := (obj_cells HX2.out).1 3 _ rfl
  have a4 := (obj_cells HX2.out).1 4 _ rfl
  have a5 := (obj_cells HX2.out).1 5 _ rfl
  have a6 := (obj_cells HX2.out).1 6 _ rfl
  have a7 := (obj_cells HX2.out).1 7 _ rfl
  have a8 := (obj_cells HX2.out).1 8 _ rfl
  have a9 := (obj_cells HX2.out).1 9 _ rfl
  have a10 := (obj_cells HX2.out).1 10 _ rfl
  have a11 := (obj_cells HX2.out).1 11 _ rfl
  have a12 := (obj_cells HX2.out).1 12 _ rfl
  go_upto_region 5 with (go_at_call 11; refine CC.out.mono ?_; rintro e w4 ⟨rfl, h1, h2⟩; have X4 := Lib.hid h1; have K4 := Lib.hid h2; clear h1 h2)
  clear a0 a1 a2 a3 a4 a5 a6 a7 a8 a9 a10 a11 a12 CC
  have BB := Lib.hid (B2.out.trans K4.out.1)
  have OV := Lib.hid (pover_any B pb _ w4 X4.out)
  by_cases ho : 1000000 < E.length
  · rw [decide_eq_true ho] at OV
    obtain ⟨rfl, rfl⟩ := PN.out ho
    clear ho PN PY
    go_wp2_with (go_at_call 12; refine OV.out.mono ?_; rintro e w5 ⟨rfl, rfl⟩)
    go_ret2
    exact ⟨rfl, BB.out⟩
  · rw [decide_eq_false ho] at OV
    obtain ⟨rfl, rfl⟩ := PY.out ho
    obtain ⟨l, hs, hp⟩ := X4.out
    obtain rfl : l = E := by
      rcases hs.2 with h | h
      · exact h
      · exact absurd h.2 ho
    obtain ⟨p, cap, h1, h2⟩ := hp.form
    obtain ⟨g, rfl⟩ : ∃ g, p = some ⟨g, 0, none⟩ := by
      rcases h2.2 with ⟨_, e0⟩ | ⟨g, cap', cur, e, _⟩
      · exact absurd (List.eq_nil_of_length_eq_zero e0) HNE.out
      · cases e; exact ⟨g, rfl⟩
    have CB := back_row h2 rfl
    have c0 := (obj_cells h1).1 0 _ rfl
    clear ho PN PY hs hp h1 h2 X4 HNE
    go_wp2_with (go_at_call 12; refine OV.out.mono ?_; rintro e w5 ⟨rfl, rfl⟩)
    go_ret2
    exact ⟨rfl, BB.out⟩
open Classical in
/-- The program's May, as the laws' walks want it. -/
theorem qmay_pr : MayPr := fun m q w hz hr => (qmay_any m q w hz hr).mono (fun _ _ h => by
  obtain ⟨hb, ⟨rfl, h1⟩ | ⟨rfl, h1⟩⟩ := h
  · exact ⟨by rw [decide_eq_true h1], hb⟩
  · exact ⟨by rw [decide_eq_false h1], hb⟩)

end Go.Proofs.YtjmfjlffcopnnaaDoor
