/-
  Pi, Qd, in one text. Conditions: as each theorem's premises say.
-/
import Derived.Test.YtjmfjlffcopnnaaGreatDoorPM41
import Derived.Test.YtjmfjlffcopnnaaGreatDoorPM44
import Derived.Test.YtjmfjlffcopnnaaGreatDoorPM33
import Derived.Test.YtjmfjlffcopnnaaGreatDoorPM17
import Derived.Test.YtjmfjlffcopnnaaGreatDoorPM37
import Derived.Deep.CutBlock
import Derived.Deep.DeepCutAuto
namespace Go.Proofs.YtjmfjlffcopnnaaGreatDoor
open Go.RowKit
open Go.Proofs.YtjmfjlffcopnnaaGreatDoor.K (C RowC PieceAt MayP)

theorem back_row {w : World} {B g n cap : Nat} {l : List UInt8} (h : w.ownsRow B 5 1 (.slice (some ⟨g, 0, none⟩) n cap) n (Lib.byteCells l)) (hn : l.length = n) : (convert 61 9 (.slice (some ⟨g, 0, none⟩) n cap)).run Tryz.prog w = .ok (.string ⟨l.toArray⟩) w := by
  subst hn
  refine run_convert_bytes_back (P := Tryz.prog) w 61 9 5 ⟨g, 0, none⟩ cap l Tryz.underlying61 Tryz.underlying5 Tryz.underlying9 fun j hj => ?_
  exact World.ownsRow.cells h rfl j _ (by simp [Lib.byteCells, List.getElem?_eq_getElem hj])
theorem may_text_len {m : Ms} (hm : MsMay m) : (msgC m []).length ≤ 70368744177664 := by
  obtain ⟨f1, f2, f3, f4, f5, f6⟩ := hm.1
  have n1 := num_len (n := m.cl) f1 (by omega)
  have n2 := num_len (n := m.rv) f3 (by omega)
  have n3 := num_len (n := m.sq) f5 (by omega)
  rcases hm.2 with h | h | ⟨h, _, _, g3, g4, g5, g6, g7, g8⟩
  · rw [msg_poll h.1]
    have := comps_len h.2.2.2.1
    simp only [List.length_append, List.length_singleton]
    omega
  · rw [msg_changes h.1]
    have h1 := row_len ent_app (M := 400000000) (fun e he => (may_entry (h.2.2.2.2.2 e he)).2)
    have h2 := Nat.mul_le_mul_right 400000000 h.2.2.2.2.1
    have h3 := num_len (n := (m.es.length : Int)) (by omega) (by have := h.2.2.2.2.1; omega)
    simp only [List.length_append, List.length_singleton]
    omega
  · rw [msg_snap h]
    have h1 := tree_len g8
    have h2 := str_len (bytesOf m.tx) (by rw [bytes_len]; omega)
    rw [bytes_len] at h2
    have n4 := num_len (n := m.fr) g3 (by omega)
    have n5 := num_len (n := m.ls) g5 (by omega)
    have n6 : (numC (if m.rf then 1 else 0) []).length ≤ 20 := by cases m.rf <;> exact num_len (by decide) (by decide)
    simp only [List.length_append, List.length_singleton]
    omega
theorem PX.new {w0 w : World} (TB : Tb w0) (hb : Below w0.heap.size w0 w) {pb : Nat} (hp : w0.heap.size ≤ pb) (h : w.heap[pb]? = some (.cells #[.slice none 0 0] 63 (0, 0))) : PX w w0.heap.size pb [] :=
  ⟨[], ⟨Nat.le_refl _, .inl rfl⟩, ⟨⟨_, h, ⟨rfl, .inl ⟨rfl, rfl⟩⟩⟩, hp, (Lib.tabBelow_of_tabIs TB).on hb⟩⟩

set_option maxRecDepth 100000 in
set_option maxHeartbeats 8000000 in
theorem qput_any : PutPr := by
  intro m q w TB hz hr
  have MY : Hid (∀ W, Below w.heap.size w W → Calls Tryz.prog 12 #[msV m q] W (Tells (MsMay m) W)) := Lib.hid (fun W hW => qmay_any m q W hz (hr.below hW))
  by_cases hm : MsMay m
  case neg =>
    have HM := Lib.hid hm
    unfold PutD
    rw [(put_not (m := m) (fun h => hm h.1)).1, (put_not (m := m) (fun h => hm h.1)).2]
    clear hm hr hz TB
    generalize MsMay m = P at MY HM
    unfold msV at MY ⊢
    go_enter Tryz.func6, Tryz.ntmps6
    go_wp2_with (go_at_call 12; refine (MY.out _ ((Below.refl w.heap.size w).alloc (Nat.le_refl _) _)).mono ?_; rintro e w2 ⟨hb, ⟨rfl, hy⟩ | ⟨rfl, hy⟩⟩; exact absurd hy HM.out; have B2 := Lib.hid hb; clear hb hy)
    go_ret2
    exact ⟨rfl, ((Below.refl w.heap.size w).alloc (Nat.le_refl _) _).trans (B2.out.mono (by simp))⟩
  have HM := Lib.hid hm
  have MG : Hid (∀ pb W, Below w.heap.size w W → PX W w.heap.size pb [] → Calls Tryz.prog 21 #[.pointer (some ⟨pb, 0, none⟩), msV m q] W (PutS w.heap.size pb (msgC m []) W)) := Lib.hid (fun pb W hW hX => pmsg_any w m q hm hr pb [] W hW hX (may_text_len hm))
  have NX : Hid (∀ pb W, Below w.heap.size w W → w.heap.size ≤ pb → W.heap[pb]? = some (.cells #[.slice none 0 0] 63 (0, 0)) → PX W w.heap.size pb []) := Lib.hid (fun pb W hW hp h => PX.new TB hW hp h)
  have PN : Hid (1000000 < (msgC m []).length → putZ m = ⟨#[]⟩ ∧ putE m = 1700) := Lib.hid (fun h => put_not (fun g => by have := g.2; omega))
  have PY : Hid (¬ 1000000 < (msgC m []).length → putZ m = ⟨(msgC m []).toArray⟩ ∧ putE m = 0) := Lib.hid (fun h => ⟨by unfold putZ; rw [if_pos ⟨hm, by omega⟩], (put_yes ⟨hm, by omega⟩).2.1⟩)
  have HNE := Lib.hid (msg_ne m)
  unfold PutD
  clear hm hr hz TB
  generalize MsMay m = P at MY HM
  generalize msgC m [] = E at MG PN PY HNE
  generalize putZ m = z at PN PY ⊢
  generalize putE m = er at PN PY ⊢
  unfold msV at MY MG ⊢
  obtain ⟨B, hB⟩ : ∃ B, w.heap.size = B := ⟨_, rfl⟩
  have HE := Lib.hid hB
  rw [hB] at MY MG NX ⊢
  clear hB
  go_enter Tryz.func6, Tryz.ntmps6
  go_upto_region 1 with fail
  have HX : Hid ((w.alloc (.cells #[.int .i64 m.kd, .int .i64 m.cl, .int .i64 m.rv, .int .i64 m.sq, .int .i64 m.fr, .int .i64 m.ls, .bool m.rf, .slice q.ep m.ed.length q.ec, .slice q.sp m.es.length q.sc, .string m.tx, .int .i64 m.ro, .int .i64 m.nx, .slice q.np m.ns.length q.nc] 28)).heap[w.heap.size]? = some (.cells #[.int .i64 m.kd, .int .i64 m.cl, .int .i64 m.rv, .int .i64 m.sq, .int .i64 m.fr, .int .i64 m.ls, .bool m.rf, .slice q.ep m.ed.length q.ec, .slice q.sp m.es.length q.sc, .string m.tx, .int .i64 m.ro, .int .i64 m.nx, .slice q.np m.ns.length q.nc] 28 (0, 0))) := Lib.hid (heap_alloc_new w _)
  have B1 : Hid (Below B w (w.alloc (.cells #[.int .i64 m.kd, .int .i64 m.cl, .int .i64 m.rv, .int .i64 m.sq, .int .i64 m.fr, .int .i64 m.ls, .bool m.rf, .slice q.ep m.ed.length q.ec, .slice q.sp m.es.length q.sc, .string m.tx, .int .i64 m.ro, .int .i64 m.nx, .slice q.np m.ns.length q.nc] 28))) := Lib.hid ((Below.refl B w).alloc (by rw [HE.out]; exact Nat.le_refl _) _)
  generalize w.alloc (.cells #[.int .i64 m.kd, .int .i64 m.cl, .int .i64 m.rv, .int .i64 m.sq, .int .i64 m.fr, .int .i64 m.ls, .bool m.rf, .slice q.ep m.ed.length q.ec, .slice q.sp m.es.length q.sc, .string m.tx, .int .i64 m.ro, .int .i64 m.nx, .slice q.np m.ns.length q.nc] 28) = w1 at HX B1 ⊢
  rw [HE.out] at HX ⊢
  have a0 := (obj_cells HX.out).1 0 _ rfl
  have a1 := (obj_cells HX.out).1 1 _ rfl
  have a2 := (obj_cells HX.out).1 2 _ rfl
  have a3 := (obj_cells HX.out).1 3 _ rfl
  have a4 := (obj_cells HX.out).1 4 _ rfl
  have a5 := (obj_cells HX.out).1 5 _ rfl
  have a6 := (obj_cells HX.out).1 6 _ rfl
  have a7 := (obj_cells HX.out).1 7 _ rfl
  have a8 := (obj_cells HX.out).1 8 _ rfl
  have a9 := (obj_cells HX.out).1 9 _ rfl
  have a10 := (obj_cells HX.out).1 10 _ rfl
  have a11 := (obj_cells HX.out).1 11 _ rfl
  have a12 := (obj_cells HX.out).1 12 _ rfl
  go_upto_region 3 with (go_at_call 12; refine (MY.out _ B1.out).mono ?_; rintro e w2 ⟨hb, ⟨rfl, hy⟩ | ⟨rfl, hy⟩⟩; rotate_left; exact absurd HM.out hy; have H2 := Lib.hid hb; clear hb hy)
  clear a0 a1 a2 a3 a4 a5 a6 a7 a8 a9 a10 a11 a12
  go_upto_region 4 with fail
  have HX2 : Hid ((w2.alloc (.cells #[.slice none 0 0] 63)).heap[B]? = some (.cells #[.int .i64 m.kd, .int .i64 m.cl, .int .i64 m.rv, .int .i64 m.sq, .int .i64 m.fr, .int .i64 m.ls, .bool m.rf, .slice q.ep m.ed.length q.ec, .slice q.sp m.es.length q.sc, .string m.tx, .int .i64 m.ro, .int .i64 m.nx, .slice q.np m.ns.length q.nc] 28 (0, 0))) := Lib.hid (heap_old (heap_later HX.out H2.out) _)
  have HP2 : Hid ((w2.alloc (.cells #[.slice none 0 0] 63)).heap[w2.heap.size]? = some (.cells #[.slice none 0 0] 63 (0, 0))) := Lib.hid (heap_alloc_new w2 _)
  have B2 : Hid (Below B w (w2.alloc (.cells #[.slice none 0 0] 63))) := Lib.hid ((B1.out.trans (Below.mono H2.out (by have h1 := B1.out.size; have h2 := HE.out; omega))).alloc (by have h1 := B1.out.size; have h2 := HE.out; have h3 := H2.out.size; omega) _)
  have S2 : Hid (B ≤ w2.heap.size) := Lib.hid (by have h1 := B1.out.size; have h2 := HE.out; have h3 := H2.out.size; omega)
  clear HX B1 H2
  generalize w2.alloc (.cells #[.slice none 0 0] 63) = w3 at HX2 HP2 B2 ⊢
  obtain ⟨pb, hpb⟩ : ∃ b, w2.heap.size = b := ⟨_, rfl⟩
  rw [hpb] at HP2 S2 ⊢
  clear hpb
  have CC := Lib.hid (MG.out pb w3 B2.out (NX.out pb w3 B2.out S2.out HP2.out))
  clear NX MG MY HM
  have a0 := (obj_cells HX2.out).1 0 _ rfl
  have a1 := (obj_cells HX2.out).1 1 _ rfl
  have a2 := (obj_cells HX2.out).1 2 _ rfl
  have a3 := (obj_cells HX2.out).1 3 _ rfl
  have a4 := (obj_cells HX2.out).1 4 _ rfl
  have a5 := (obj_cells HX2.out).1 5 _ rfl
  have a6 := (obj_cells HX2.out).1 6 _ rfl
  have a7 := (obj_cells HX2.out).1 7 _ rfl
  have a8 := (obj_cells HX2.out).1 8 _ rfl
  have a9 := (obj_cells HX2.out).1 9 _ rfl
  have a10 := (obj_cells HX2.out).1 10 _ rfl
  have a11 := (obj_cells HX2.out).1 11 _ rfl
  have a12 := (obj_cells HX2.out).1 12 _ rfl
  go_upto_region 5 with (go_at_call 21; refine CC.out.mono ?_; rintro e w4 ⟨rfl, h1, h2⟩; have X4 := Lib.hid h1; have K4 := Lib.hid h2; clear h1 h2)
  clear a0 a1 a2 a3 a4 a5 a6 a7 a8 a9 a10 a11 a12 CC
  have BB := Lib.hid (B2.out.trans K4.out.1)
  have OV := Lib.hid (pover_any B pb _ w4 X4.out)
  by_cases ho : 1000000 < E.length
  · rw [decide_eq_true ho] at OV
    obtain ⟨rfl, rfl⟩ := PN.out ho
    clear ho PN PY
    go_wp2_with (go_at_call 22; refine OV.out.mono ?_; rintro e w5 ⟨rfl, rfl⟩)
    go_ret2
    exact ⟨rfl, BB.out⟩
  · rw [decide_eq_false ho] at OV
    obtain ⟨rfl, rfl⟩ := PY.out ho
    obtain ⟨l, hs, hp⟩ := X4.out
    obtain rfl : l = E := by
      rcases hs.2 with h | h
      · exact h
      · exact absurd h.2 ho
    obtain ⟨p, cap, h1, h2⟩ := hp.form
    obtain ⟨g, rfl⟩ : ∃ g, p = some ⟨g, 0, none⟩ := by
      rcases h2.2 with ⟨_, e0⟩ | ⟨g, cap', cur, e, _⟩
      · exact absurd (List.eq_nil_of_length_eq_zero e0) HNE.out
      · cases e; exact ⟨g, rfl⟩
    have CB := back_row h2 rfl
    have c0 := (obj_cells h1).1 0 _ rfl
    clear ho PN PY hs hp h1 h2 X4 HNE
    go_wp2_with (go_at_call 22; refine OV.out.mono ?_; rintro e w5 ⟨rfl, rfl⟩)
    go_ret2
    exact ⟨rfl, BB.out⟩
open Classical in
/-- The program's May, as the laws' walks want it. -/
theorem qmay_pr : MayPr := fun m q w hz hr => (qmay_any m q w hz hr).mono (fun _ _ h => by
  obtain ⟨hb, ⟨rfl, h1⟩ | ⟨rfl, h1⟩⟩ := h
  · exact ⟨by rw [decide_eq_true h1], hb⟩
  · exact ⟨by rw [decide_eq_false h1], hb⟩)

end Go.Proofs.YtjmfjlffcopnnaaGreatDoor

namespace Go.Proofs.YtjmfjlffcopnnaaGreatDoor
open Go.RowKit

/-- The program's taker in its box. -/
structure TkP (w : World) (tb : Nat) (z : ByteArray) (b : Bool) : Prop where
  obj : w.heap[tb]? = some (.cells #[.string z, .bool b] 70 (0, 0))
  le : z.size ≤ 1000000
  emp : b = true → z = ⟨#[]⟩
theorem TkP.kept {w w' : World} {tb : Nat} {z : ByteArray} {b : Bool} {row : Option Nat} (h : TkP w tb z b) (hg : w.grownBy w' row) (hne : ∀ g, row = some g → g ≠ tb) : TkP w' tb z b :=
  ⟨(hg.block tb (Array.getElem?_eq_some_iff.1 h.obj).1 (fun e => hne tb e.symm rfl)).trans h.obj, h.le, h.emp⟩
def UniT (tb : Nat) (w : World) (e : Ending) (w' : World) : Prop := e = .returned (.tuple #[]) ∧ TkP w' tb ⟨#[]⟩ true ∧ w.grownBy w' (some tb)
theorem bytes_at {z : ByteArray} {m : Nat} (h : m < z.size) : (bytesOf z)[m]? = some z[m] := by
  unfold bytesOf
  rw [List.getElem?_eq_getElem (by simpa using h)]
  rfl
theorem bytes_size (z : ByteArray) : (bytesOf z).length = z.size := by simp [bytesOf]
theorem bytes_ext (z : ByteArray) (a : Nat) : bytesOf (z.extract a z.size) = (bytesOf z).drop a := by
  unfold bytesOf
  rw [ByteArray.data_extract, Array.toList_extract, List.extract_eq_take_drop, List.take_of_length_le]
  rw [List.length_drop]
  simp

set_option maxRecDepth 100000 in
theorem qrefuse_any (z : ByteArray) (tb : Nat) (b : Bool) (w : World) (h : TkP w tb z b) : Calls Tryz.prog 112 #[.pointer (some ⟨tb, 0, none⟩)] w (UniT tb w) := by
  have T := Lib.hid h
  have c0 : w.cell? ⟨tb, 0, none⟩ = some (.string z) := (obj_cells h.obj).1 0 _ rfl
  have c1 : w.cell? ⟨tb, 1, none⟩ = some (.bool b) := (obj_cells h.obj).1 1 _ rfl
  have f0 := (obj_cells h.obj).2.1 0
  have f1 := (obj_cells h.obj).2.1 1
  clear h
  go_enter Tryz.func112, Tryz.ntmps112
  go_wp2_with fail
  refine bodyPost_ret (results_none rfl _ _ _) rfl ?_
  refine ⟨rfl, ⟨?_, by decide, fun _ => rfl⟩, ?_⟩
  · rw [heap_setCell_at (heap_setCell_at T.out.obj _)]
    rfl
  · exact grown_set (grown_set (grown_refl _ _) _) _

def DigT (e : UInt8) (tb : Nat) (z : ByteArray) (b : Bool) (w : World) (en : Ending) (w' : World) : Prop := ∃ (n : Nat) (z' : ByteArray) (b' : Bool), en = .returned (.int .i64 n) ∧ n ≤ 16777216 ∧ Took NuP (digC e) (bytesOf z) b n (bytesOf z') b' ∧ TkP w' tb z' b' ∧ w.grownBy w' (some tb)

set_option maxRecDepth 100000 in
set_option maxHeartbeats 4000000 in
theorem qdigits_any (e : UInt8) (he : isDg e = false) (z : ByteArray) (tb : Nat) (b : Bool) (w : World) (h : TkP w tb z b) : Calls Tryz.prog 113 #[.pointer (some ⟨tb, 0, none⟩), .int .u8 e.toNat] w (DigT e tb z b w) := by
  have T0 := Lib.hid h
  have HE := Lib.hid he
  have hz := h.le
  clear h he
  go_enter Tryz.func113, Tryz.ntmps113
  go_upto_block 0 with fail
  go_cut [5, 6] from 8 to 49 (fun v5 v6 wx => ∃ (X m : Nat), v5 = .int .i64 X ∧ v6 = .int .i64 m ∧ X < 200000000 ∧ m ≤ z.size ∧ Hid (valD 0 ((bytesOf z).take m) = X) ∧ Hid (∀ j c, j < m → (bytesOf z)[j]? = some c → isDg c = true) ∧ Hid (16777216 < X ∨ z.size = m ∨ ∃ c, (bytesOf z)[m]? = some c ∧ isDg c = false) ∧ Hid (TkP wx tb z b) ∧ Hid (w.grownBy wx (some tb)))
  case first =>
    go_wp2_with fail
    go_loopw [5, 6] (fun v5 v6 wr => ∃ (X m : Nat), v5 = .int .i64 X ∧ v6 = .int .i64 m ∧ X < 200000000 ∧ m ≤ z.size ∧ Hid (valD 0 ((bytesOf z).take m) = X) ∧ Hid (∀ j c, j < m → (bytesOf z)[j]? = some c → isDg c = true) ∧ Hid (TkP wr tb z b) ∧ Hid (w.grownBy wr (some tb))) (fun _ v6 _ => z.size - (intOf v6).toNat)
    case atStart => exact ⟨0, 0, rfl, rfl, by decide, by omega, Lib.hid rfl, Lib.hid (fun j c hj => by omega), T0, Lib.hid (grown_refl _ _)⟩
    case round =>
      clear T0
      obtain ⟨X, m, rfl, rfl, hX, hm, HX, HD, T, G⟩ := hrel
      have c0 : wr.cell? ⟨tb, 0, none⟩ = some (.string z) := (obj_cells T.out.obj).1 0 _ rfl
      by_cases q0 : X ≤ 16777216
      case neg =>
        have k0 : decide ((X : Int) ≤ 16777216) = false := decide_eq_false (by omega)
        go_wp2_with fail
        go_meet
        exact ⟨X, m, rfl, rfl, hX, hm, HX, HD, Lib.hid (.inl (by omega)), T, G⟩
      have k0 : decide ((X : Int) ≤ 16777216) = true := decide_eq_true (by omega)
      by_cases q1 : m < z.size
      case neg =>
        have k1 : decide ((m : Int) < (z.size : Int)) = false := decide_eq_false (by omega)
        go_wp2_with fail
        go_meet
        exact ⟨X, m, rfl, rfl, hX, hm, HX, HD, Lib.hid (.inr (.inl (by omega))), T, G⟩
      have k1 : decide ((m : Int) < (z.size : Int)) = true := decide_eq_true (by omega)
      obtain ⟨c, hc⟩ : ∃ c, z[m] = c := ⟨_, rfl⟩
      have HF : Hid ((bytesOf z)[m]? = some c) := Lib.hid (by rw [bytes_at q1, hc])
      have hc8 := c.toNat_lt
      have m0 : (0 : Int) ≤ (m : Int) := by omega
      have m1 : (m : Int) < (z.size : Int) := by omega
      by_cases q2 : 48 ≤ c.toNat
      case neg =>
        have k2 : decide ((48 : Int) ≤ (c.toNat : Int)) = false := decide_eq_false (by omega)
        go_wp2_with fail
        go_meet
        exact ⟨X, m, rfl, rfl, hX, hm, HX, HD, Lib.hid (.inr (.inr ⟨c, HF.out, by unfold isDg; simp; omega⟩)), T, G⟩
      have k2 : decide ((48 : Int) ≤ (c.toNat : Int)) = true := decide_eq_true (by omega)
      by_cases q3 : c.toNat ≤ 57
      case neg =>
        have k3 : decide ((c.toNat : Int) ≤ 57) = false := decide_eq_false (by omega)
        go_wp2_with fail
        go_meet
        exact ⟨X, m, rfl, rfl, hX, hm, HX, HD, Lib.hid (.inr (.inr ⟨c, HF.out, by unfold isDg; simp; omega⟩)), T, G⟩
      have k3 : decide ((c.toNat : Int) ≤ 57) = true := decide_eq_true (by omega)
      have v2 : IntKind.i64.wrap (10 * (X : Int)) = 10 * (X : Int) := IntWalk.i64_in _ (by omega)
      have v3 : IntKind.i64.wrap (10 * (X : Int) + ((c.toNat : Int) - 48)) = 10 * (X : Int) + ((c.toNat : Int) - 48) := IntWalk.i64_in _ (by omega)
      have v4 : IntKind.u8.wrap ((c.toNat : Int) - 48) = (c.toNat : Int) - 48 := IntWalk.u8_in _ (by omega)
      have v5 : IntKind.i64.wrap ((c.toNat : Int) - 48) = (c.toNat : Int) - 48 := IntWalk.i64_in _ (by omega)
      have VS := Lib.hid (qvalD_snoc HF.out)
      have HD2 : Hid (∀ j c, j < m + 1 → (bytesOf z)[j]? = some c → isDg c = true) := Lib.hid (fun j c' hj hc' => by
        by_cases e1 : j = m
        · rw [e1, HF.out] at hc'
          cases hc'
          unfold isDg
          simp
          omega
        · exact HD.out j c' (by omega) hc')
      go_wp2_with fail
      go_roundw
      case rel =>
        refine ⟨10 * X + (c.toNat - 48), m + 1, by go_num, by go_num, by omega, by omega, Lib.hid (by rw [VS.out, HX.out]), HD2, T, G⟩
      case measure => simp [intOf]; omega
  case rest =>
    clear T0
    obtain ⟨X, m, rfl, rfl, hX, hm, HX, HD, EX, T, G⟩ := hcut
    have c0 : wc.cell? ⟨tb, 0, none⟩ = some (.string z) := (obj_cells T.out.obj).1 0 _ rfl
    go_upto_region 5 with fail
    go_cut [7] (fun v wx => ∃ pl : Bool, v = .bool pl ∧ Hid (pl = true ↔ (m = 1 ∨ (1 < m ∧ (bytesOf z)[0]? ≠ some 48))) ∧ Hid (TkP wx tb z b) ∧ Hid (w.grownBy wx (some tb)))
    case first =>
      by_cases p1 : m = 1
      · have k1 : ((m : Int) == 1) = true := by rw [beq_iff_eq]; omega
        go_wp2_with fail
        go_meet
        exact ⟨_, rfl, Lib.hid (by simp [p1]), T, G⟩
      have k1 : ((m : Int) == 1) = false := by rw [beq_eq_false_iff_ne]; omega
      by_cases p2 : 1 < m
      case neg =>
        have k2 : decide ((1 : Int) < (m : Int)) = false := decide_eq_false (by omega)
        go_wp2_with fail
        go_meet
        exact ⟨_, rfl, Lib.hid (by simp [p1, p2]), T, G⟩
      have k2 : decide ((1 : Int) < (m : Int)) = true := decide_eq_true (by omega)
      have hz0 : 0 < z.size := by omega
      have hz0i : (0 : Int) < (z.size : Int) := by omega
      obtain ⟨c, hc⟩ : ∃ c, z[0] = c := ⟨_, rfl⟩
      have HF : Hid ((bytesOf z)[0]? = some c) := Lib.hid (by rw [bytes_at hz0, hc])
      by_cases p3 : c.toNat = 48
      · have k3 : ((c.toNat : Int) != 48) = false := by rw [bne_eq_false_iff_eq]; omega
        go_wp2_with fail
        go_meet
        exact ⟨_, rfl, Lib.hid (by rw [HF.out]; have : c = 48 := UInt8.toNat_inj.1 p3; simp [p1, this]), T, G⟩
      · have k3 : ((c.toNat : Int) != 48) = true := by rw [bne_iff_ne]; omega
        go_wp2_with fail
        go_meet
        exact ⟨_, rfl, Lib.hid (by rw [HF.out]; have : c ≠ 48 := fun e => p3 (by rw [e]; rfl); simp [p2, this]), T, G⟩
    case rest =>
      clear c0 T G
      obtain ⟨pl, rfl, PL, T, G⟩ := hcut
      have c0 : wc.cell? ⟨tb, 0, none⟩ = some (.string z) := (obj_cells T.out.obj).1 0 _ rfl
      go_upto_region 6 with fail
      go_cut [88] (fun v wx => ∃ bd : Bool, v = .bool bd ∧ Hid (bd = false ↔ ((m = 1 ∨ (1 < m ∧ (bytesOf z)[0]? ≠ some 48)) ∧ X ≤ 16777216 ∧ (bytesOf z)[m]? = some e)) ∧ Hid (TkP wx tb z b) ∧ Hid (w.grownBy wx (some tb)))
      case first =>
        cases pl with
        | false =>
          go_wp2_with fail
          go_meet
          exact ⟨_, rfl, Lib.hid ⟨fun e => (by cases e), fun e => (by have := PL.out.2 e.1; cases this)⟩, T, G⟩
        | true =>
          by_cases p1 : X ≤ 16777216
          case neg =>
            have k1 : decide ((16777216 : Int) < (X : Int)) = true := decide_eq_true (by omega)
            go_wp2_with fail
            go_meet
            exact ⟨_, rfl, Lib.hid ⟨fun e => (by cases e), fun e => absurd e.2.1 p1⟩, T, G⟩
          have k1 : decide ((16777216 : Int) < (X : Int)) = false := decide_eq_false (by omega)
          by_cases p2 : m = z.size
          · have k2 : ((m : Int) == (z.size : Int)) = true := by rw [beq_iff_eq]; omega
            have NN : Hid ((bytesOf z)[m]? = none) := Lib.hid (by rw [List.getElem?_eq_none_iff, bytes_size]; omega)
            clear p2
            go_wp2_with fail
            go_meet
            exact ⟨_, rfl, Lib.hid ⟨fun e => (by cases e), fun e => (by have := e.2.2; rw [NN.out] at this; cases this)⟩, T, G⟩
          have k2 : ((m : Int) == (z.size : Int)) = false := by rw [beq_eq_false_iff_ne]; omega
          have m0 : (0 : Int) ≤ (m : Int) := by omega
          have m1 : (m : Int) < (z.size : Int) := by omega
          have q1 : m < z.size := by omega
          obtain ⟨c, hc⟩ : ∃ c, z[m] = c := ⟨_, rfl⟩
          have HF : Hid ((bytesOf z)[m]? = some c) := Lib.hid (by rw [bytes_at q1, hc])
          by_cases p3 : c = e
          · have k3 : ((c.toNat : Int) != (e.toNat : Int)) = false := by rw [p3]; simp
            have P3 := Lib.hid p3
            clear p3
            go_wp2_with fail
            go_meet
            exact ⟨_, rfl, Lib.hid ⟨fun _ => ⟨PL.out.1 trivial, p1, by rw [HF.out, P3.out]⟩, fun _ => rfl⟩, T, G⟩
          · have k3 : ((c.toNat : Int) != (e.toNat : Int)) = true := by rw [bne_iff_ne]; intro h; exact p3 (UInt8.toNat_inj.1 (by omega))
            go_wp2_with fail
            go_meet
            exact ⟨_, rfl, Lib.hid ⟨fun e => (by cases e), fun e => (by have := e.2.2; rw [HF.out] at this; exact absurd (Option.some.inj this) p3)⟩, T, G⟩
      case rest =>
        clear c0 T G
        obtain ⟨bd, rfl, BD, T, G⟩ := hcut
        cases bd with
        | true =>
          go_wp2_with (go_at_call 112; refine (qrefuse_any z tb b wc T.out).mono ?_; rintro e w2 ⟨rfl, hT, hg⟩; have T2 := Lib.hid hT; have G2 := Lib.hid (grown_trans G.out hg (fun _ h => .inl h)); clear hT hg)
          go_ret
          refine ⟨0, ⟨#[]⟩, true, rfl, by decide, took_dig_no HE.out HD.out ?_ ?_, T2.out, G2.out⟩
          · rw [HX.out, bytes_size]; exact EX.out
          · rw [HX.out]; intro h; have := BD.out.2 h; cases this
        | false =>
          have GD := Lib.hid (BD.out.1 rfl)
          have c0 : wc.cell? ⟨tb, 0, none⟩ = some (.string z) := (obj_cells T.out.obj).1 0 _ rfl
          have f0 := (obj_cells T.out.obj).2.1 0
          have q1 : m < z.size := by
            have := (List.getElem?_eq_some_iff.1 GD.out.2.2).1
            rwa [bytes_size] at this
          have NB : Hid (b = false) := Lib.hid (by
            cases b with
            | false => rfl
            | true => rw [T.out.emp rfl] at q1; exact absurd q1 (Nat.not_lt_zero _))
          obtain ⟨k, hk⟩ : ∃ k, m + 1 = k := ⟨_, rfl⟩
          have v1 : IntKind.i64.wrap ((m : Int) + 1) = (k : Int) := by rw [IntWalk.i64_in _ (by omega)]; omega
          have k0 : (0 : Int) ≤ (k : Int) := by omega
          have k1 : (k : Int) ≤ (z.size : Int) := by omega
          have KK := Lib.hid hk
          clear hk
          go_wp2_with fail
          go_ret
          refine ⟨X, z.extract k z.size, b, rfl, GD.out.2.1, ?_, ⟨?_, ?_, ?_⟩, grown_set G.out _⟩
          · have := took_dig_yes (b := b) (fun e => by rw [NB.out] at e; cases e) HD.out GD.out.1 (by rw [HX.out]; exact GD.out.2.1) GD.out.2.2
            rw [HX.out, KK.out, ← bytes_ext] at this
            exact this
          · rw [heap_setCell_at T.out.obj]
            rfl
          · rw [ByteArray.size_extract]
            omega
          · intro e
            rw [NB.out] at e
            cases e

end Go.Proofs.YtjmfjlffcopnnaaGreatDoor
