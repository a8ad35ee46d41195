/-
  Pk5, StB, in one text. Conditions: as each theorem's premises say.
-/
import Derived.Test.YtjmfjlffcopnnaaGreatDoorPM17
import Derived.Test.YtjmfjlffcopnnaaGreatDoorPM16
namespace Go.Proofs.YtjmfjlffcopnnaaGreatDoor
open Go.RowKit
open Go.Proofs.YtjmfjlffcopnnaaGreatDoor.K (C RowC PieceAt)

theorem step_app : App stepC := by
  intro x r r'
  unfold stepC
  rw [list_app num_app, num_app, num_app, num_app, num_app, num_app]
theorem ent_app : App entC := by
  intro x r r'
  unfold entC
  rw [list_app step_app, list_app comp_app, num_app, num_app]
/-- What a step, an entry is, that can be packed. -/
def StP (x : St) : Prop := NmP x.kd ∧ NmP x.id ∧ NmP x.nd ∧ NmP x.fr ∧ NmP (St.to x) ∧ (∀ k ∈ x.kids, NmP k) ∧ x.kids.length ≤ 140737488355328
def EnP (e : En) : Prop := NmP e.cl ∧ NmP e.sq ∧ (∀ c ∈ e.ed, CpP c) ∧ (∀ s ∈ e.dl, StP s) ∧ e.ed.length ≤ 140737488355328 ∧ e.dl.length ≤ 140737488355328
theorem step_split (x : St) : stepC x [] = numC x.kd [] ++ (numC x.id [] ++ (numC x.nd [] ++ (numC x.fr [] ++ (numC (St.to x) [] ++ listC numC x.kids [])))) := by
  unfold stepC
  rw [num_app.nil x.kd, num_app.nil x.id, num_app.nil x.nd, num_app.nil x.fr, num_app.nil (St.to x)]
theorem ent_split (e : En) : entC e [] = numC e.cl [] ++ (numC e.sq [] ++ (listC compC e.ed [] ++ (numC (e.dl.length : Int) [] ++ rowC stepC e.dl []))) := by
  unfold entC
  rw [num_app.nil e.cl, num_app.nil e.sq, (list_app comp_app).nil e.ed, list_split (f := stepC)]
/-- An entry as a value. -/
def enV (cl sq : Int) (ep : Option Addr) (en ec : Nat) (dp : Option Addr) (dn dc : Nat) : Value := .agg #[.int .i64 cl, .int .i64 sq, .slice ep en ec, .slice dp dn dc]

set_option maxRecDepth 100000 in
set_option maxHeartbeats 4000000 in
theorem entry_txt (cl sq : Int) (ed : List C) (ss : List St) (ep : Option Addr) (en ec : Nat) (p : Option Addr) (n cap : Nat) (he : ed.length = en) (hn : ss.length = n) (w : World) (hE : RowC w ep ed) (h : StepsR w p ss) (hP : EnP ⟨cl, sq, ed, ss⟩) (hL : (entC ⟨cl, sq, ed, ss⟩ []).length ≤ 4611686018427387904) : Calls Tryz.prog 25 #[enV cl sq ep en ec p n cap] w (TxP (entC ⟨cl, sq, ed, ss⟩ []) w) := by
  obtain ⟨hr, hx, hC, h0, hel, hl⟩ := hP
  dsimp only at hr hx hC h0 hel hl
  rw [he] at hel
  rw [hn] at hl
  have TS : entC ⟨cl, sq, ed, ss⟩ [] = numC cl [] ++ (numC sq [] ++ (listC compC ed [] ++ (numC (n : Int) [] ++ rowC stepC ss []))) := by
    rw [ent_split, hn]
  obtain ⟨KC, hKC⟩ : ∃ K, (listC compC ed []).length = K := ⟨_, rfl⟩
  have LL : Hid ((numC cl []).length + (numC sq []).length + KC + (numC (n : Int) []).length + (rowC stepC ss []).length ≤ 4611686018427387904) := Lib.hid (by
    rw [TS] at hL
    simp only [List.length_append, hKC] at hL
    omega)
  have hkc : KC ≤ 4611686018427387904 := by have := LL.out; omega
  have N1 := Lib.hid (fun W => num_txt cl hr.1 hr.2 W)
  have N2 := Lib.hid (fun W => num_txt sq hx.1 hx.2 W)
  have N3 : Hid (∀ W, Bl w W → Calls Tryz.prog 24 #[.slice ep en ec] W (TxP (listC compC ed []) W)) := Lib.hid (fun W hW => comps_txt ep ed en ec he W (fun i c hi => by
    obtain ⟨b, o, hp, hat⟩ := hE i c hi
    exact ⟨b, o, hp, hW.cell hat.1, hW.cell hat.2.1, hW.cell hat.2.2⟩) hC hel (by rw [hKC]; exact hkc))
  have N4 := Lib.hid (fun W => num_txt (n : Int) (by omega) (by omega) W)
  have E1 := Lib.hid (num_len hr.1 hr.2)
  have E2 := Lib.hid (num_len hx.1 hx.2)
  have E3 := Lib.hid (Nat.le_of_eq hKC)
  have E4 := Lib.hid (num_len (n := (n : Int)) (by omega) (by omega))
  have R := Lib.hid h; have HN := Lib.hid hn; have H0 := Lib.hid h0; have TS' := Lib.hid TS
  clear h hn h0 hL TS hr hx hE he hC hKC
  unfold enV
  go_enter Tryz.func25, Tryz.ntmps25
  go_upto_region 1 with fail
  have X0 : Hid ((w.alloc (.cells #[.int .i64 cl, .int .i64 sq, .slice ep en ec, .slice p n cap] 54)).heap[w.heap.size]? = some (.cells #[.int .i64 cl, .int .i64 sq, .slice ep en ec, .slice p n cap] 54 (0, 0))) := Lib.hid (heap_alloc_new w _)
  have B0 : Hid (Bl w (w.alloc (.cells #[.int .i64 cl, .int .i64 sq, .slice ep en ec, .slice p n cap] 54))) := Lib.hid (Bl.alloc (Bl.refl w) _)
  generalize w.alloc (.cells #[.int .i64 cl, .int .i64 sq, .slice ep en ec, .slice p n cap] 54) = w1 at X0 B0 ⊢
  have N5 : Hid (∀ W, Bl w1 W → Calls Tryz.prog 24 #[.slice ep en ec] W (TxP (listC compC ed []) W)) := Lib.hid (fun W hW => N3.out W (B0.out.trans (Below.mono hW B0.out.size)))
  generalize hxb : w.heap.size = xb at X0 ⊢
  clear hxb
  have q0 : ∀ W, Bl w1 W → W.cell? ⟨xb, 0, none⟩ = some (.int .i64 cl) := fun W hW => hW.cell ((obj_cells X0.out).1 0 _ rfl)
  have q1 : ∀ W, Bl w1 W → W.cell? ⟨xb, 1, none⟩ = some (.int .i64 sq) := fun W hW => hW.cell ((obj_cells X0.out).1 1 _ rfl)
  have q2 : ∀ W, Bl w1 W → W.cell? ⟨xb, 2, none⟩ = some (.slice ep en ec) := fun W hW => hW.cell ((obj_cells X0.out).1 2 _ rfl)
  have q3 : ∀ W, Bl w1 W → W.cell? ⟨xb, 3, none⟩ = some (.slice p n cap) := fun W hW => hW.cell ((obj_cells X0.out).1 3 _ rfl)
  go_cut [3] (fun v wx => ∃ z : ByteArray, v = .string z ∧ bytesOf z = numC cl [] ++ (numC sq [] ++ (listC compC ed [] ++ numC (n : Int) [])) ∧ Bl w1 wx)
  case first =>
    have S00 := Bl.refl w1
    go_region_held3 (fun W => Bl w1 W) ((repeat (first | with_reducible assumption | with_reducible refine Bl.alloc ?_ _ | with_reducible refine Bl.drew ?_ | (with_reducible refine Bl.set ?_ ?h _; case h => omega))))
      (first | (go_at_call 23; refine (N1.out _).mono ?_; rintro e w11 ⟨z1, rfl, hz, hb1⟩; have B11 : Bl w1 w11 := Bl.call (by (repeat (first | with_reducible assumption | with_reducible refine Bl.drew ?_))) hb1; have Z1 := Lib.hid hz; have l1 : z1.size ≤ 20 := (by rw [TxP.size hz]; exact E1.out); clear hb1 hz) | (go_at_call 23; refine (N2.out _).mono ?_; rintro e w12 ⟨z2, rfl, hz, hb1⟩; have B12 : Bl w1 w12 := Bl.call (by (repeat (first | with_reducible assumption | with_reducible refine Bl.drew ?_))) hb1; have Z2 := Lib.hid hz; have l2 : z2.size ≤ 20 := (by rw [TxP.size hz]; exact E2.out); have s2 : ¬ 9223372036854775807 < z1.size + z2.size := (by omega); clear hb1 hz) | (go_at_call 24; refine (N5.out _ (by (repeat (first | with_reducible assumption | with_reducible refine Bl.drew ?_)))).mono ?_; rintro e w13 ⟨z3, rfl, hz, hb1⟩; have B13 : Bl w1 w13 := Bl.call (by (repeat (first | with_reducible assumption | with_reducible refine Bl.drew ?_))) hb1; have Z3 := Lib.hid hz; have l3 : z3.size ≤ KC := (by rw [TxP.size hz]; exact E3.out); have s3 : ¬ 9223372036854775807 < z1.size + z2.size + z3.size := (by omega); clear hb1 hz) | (go_at_call 23; refine (N4.out _).mono ?_; rintro e w14 ⟨z4, rfl, hz, hb1⟩; have B14 : Bl w1 w14 := Bl.call (by (repeat (first | with_reducible assumption | with_reducible refine Bl.drew ?_))) hb1; have Z4 := Lib.hid hz; have l4 : z4.size ≤ 20 := (by rw [TxP.size hz]; exact E4.out); have s4 : ¬ 9223372036854775807 < z1.size + z2.size + z3.size + z4.size := (by omega); clear hb1 hz) | fail)
    all_goals
      go_wp2_with fail
      go_meet
      refine ⟨_, rfl, ?_, by assumption⟩
      rw [bytes_app, bytes_app, bytes_app, Z1.out, Z2.out, Z3.out, Z4.out]
      simp only [List.append_assoc]
  case rest =>
    obtain ⟨z, rfl, hz, hbx⟩ := hcut
    have Z := Lib.hid hz; have BX := Lib.hid hbx
    clear hz hbx
    go_wp2_with fail
    go_loopw [3, 4] (fun v a wr => ∃ (i : Nat) (z : ByteArray), i ≤ n ∧ a = .int .i64 i ∧ v = .string z ∧ Hid (bytesOf z = (numC cl [] ++ (numC sq [] ++ (listC compC ed [] ++ numC (n : Int) []))) ++ rowC stepC (ss.take i) []) ∧ Hid (Bl w1 wr)) (fun _ a _ => n - (intOf a).toNat)
    case atStart => exact ⟨0, z, by omega, rfl, rfl, Lib.hid (by rw [Z.out]; simp [rowC]), BX⟩
    case round =>
      obtain ⟨i, zz, hi, rfl, rfl, ZZ, B⟩ := hrel
      have c3 := q3 _ B.out
      by_cases hlt : i < n
      · obtain ⟨x, hx⟩ : ∃ x, ss[i]? = some x := ⟨_, List.getElem?_eq_getElem (by rw [HN.out]; exact hlt)⟩
        obtain ⟨ab, ao, kp, kc, rfl, hat, hrow⟩ := R.out i x hx
        have b1 : Bl w wr := B0.out.trans (Below.mono B.out B0.out.size)
        have m1 := hat.below b1
        have n0 : wr.cell? ⟨ab, ao + i * 6, none⟩ = some (.int .i64 x.kd) := m1 0 _ rfl
        have n1 : wr.cell? ⟨ab, ao + i * 6 + 1, none⟩ = some (.int .i64 x.id) := m1 1 _ rfl
        have n2 : wr.cell? ⟨ab, ao + i * 6 + 2, none⟩ = some (.int .i64 x.nd) := m1 2 _ rfl
        have n3 : wr.cell? ⟨ab, ao + i * 6 + 3, none⟩ = some (.int .i64 x.fr) := m1 3 _ rfl
        have n4 : wr.cell? ⟨ab, ao + i * 6 + 4, none⟩ = some (.int .i64 (St.to x)) := m1 4 _ rfl
        have n5 : wr.cell? ⟨ab, ao + i * 6 + 5, none⟩ = some (.slice kp x.kids.length kc) := m1 5 _ rfl
        have ROW := Lib.hid (hrow.below b1)
        obtain ⟨p0, p1, p2, p3, p4, p5, p6⟩ := H0.out x (List.mem_of_getElem? hx)
        have RS := Lib.hid (row_snoc step_app hx)
        have RL := Lib.hid (row_elem_len step_app hx)
        rw [step_split] at RS RL
        have hi0 : (0 : Int) ≤ (i : Int) := by omega
        have hi1 : (i : Int) < (n : Int) := by omega
        clear m1 hat hrow hx b1
        obtain ⟨xkd, xid, xnd, xfr, xto, xks⟩ := x
        dsimp only at n0 n1 n2 n3 n4 n5 ROW p0 p1 p2 p3 p4 p5 p6 RS RL
        obtain ⟨K, hK⟩ : ∃ K, (listC numC xks []).length = K := ⟨_, rfl⟩
        have hz : zz.size + K ≤ 4611686018427387904 := by
          have h1 := RL.out
          have h2 := LL.out
          have h3 := E3.out
          rw [TxP.size ZZ.out]
          simp only [List.length_append] at h1 ⊢
          omega
        obtain ⟨kn, hkl⟩ : ∃ kn, xks.length = kn := ⟨_, rfl⟩
        rw [hkl] at n5 p6
        have M1 := Lib.hid (fun W => num_txt xkd p0.1 p0.2 W)
        have M2 := Lib.hid (fun W => num_txt xid p1.1 p1.2 W)
        have M3 := Lib.hid (fun W => num_txt xnd p2.1 p2.2 W)
        have M4 := Lib.hid (fun W => num_txt xfr p3.1 p3.2 W)
        have M5 := Lib.hid (fun W => num_txt xto p4.1 p4.2 W)
        have M6 : Hid (∀ W, Bl wr W → Calls Tryz.prog 73 #[.slice kp kn kc] W (TxP (listC numC xks []) W)) := Lib.hid (fun W hW => nums_txt kp xks kn kc hkl W (ROW.out.below hW) p5 p6 (by rw [hK]; omega))
        have F1 := Lib.hid (num_len p0.1 p0.2)
        have F2 := Lib.hid (num_len p1.1 p1.2)
        have F3 := Lib.hid (num_len p2.1 p2.2)
        have F4 := Lib.hid (num_len p3.1 p3.2)
        have F5 := Lib.hid (num_len p4.1 p4.2)
        have F6 := Lib.hid hK
        clear p0 p1 p2 p3 p4 p5 hkl hK
        go_upto_region 6 with fail
        have X1 : Hid ((wr.alloc (.cells #[.int .i64 xkd, .int .i64 xid, .int .i64 xnd, .int .i64 xfr, .int .i64 xto, .slice kp kn kc] 51)).heap[wr.heap.size]? = some (.cells #[.int .i64 xkd, .int .i64 xid, .int .i64 xnd, .int .i64 xfr, .int .i64 xto, .slice kp kn kc] 51 (0, 0))) := Lib.hid (heap_alloc_new wr _)
        have B1 : Hid (Bl wr (wr.alloc (.cells #[.int .i64 xkd, .int .i64 xid, .int .i64 xnd, .int .i64 xfr, .int .i64 xto, .slice kp kn kc] 51))) := Lib.hid (Bl.alloc (Bl.refl wr) _)
        clear n0 n1 n2 n3 n4 n5 c3
        generalize wr.alloc (.cells #[.int .i64 xkd, .int .i64 xid, .int .i64 xnd, .int .i64 xfr, .int .i64 xto, .slice kp kn kc] 51) = w5 at X1 B1 ⊢
        generalize hyb : wr.heap.size = yb at X1 ⊢
        clear hyb
        have r0 : ∀ W, Bl w5 W → W.cell? ⟨yb, 0, none⟩ = some (.int .i64 xkd) := fun W hW => hW.cell ((obj_cells X1.out).1 0 _ rfl)
        have r1 : ∀ W, Bl w5 W → W.cell? ⟨yb, 1, none⟩ = some (.int .i64 xid) := fun W hW => hW.cell ((obj_cells X1.out).1 1 _ rfl)
        have r2 : ∀ W, Bl w5 W → W.cell? ⟨yb, 2, none⟩ = some (.int .i64 xnd) := fun W hW => hW.cell ((obj_cells X1.out).1 2 _ rfl)
        have r3 : ∀ W, Bl w5 W → W.cell? ⟨yb, 3, none⟩ = some (.int .i64 xfr) := fun W hW => hW.cell ((obj_cells X1.out).1 3 _ rfl)
        have r4 : ∀ W, Bl w5 W → W.cell? ⟨yb, 4, none⟩ = some (.int .i64 xto) := fun W hW => hW.cell ((obj_cells X1.out).1 4 _ rfl)
        have r5 : ∀ W, Bl w5 W → W.cell? ⟨yb, 5, none⟩ = some (.slice kp kn kc) := fun W hW => hW.cell ((obj_cells X1.out).1 5 _ rfl)
        have M7 : Hid (∀ W, Bl w5 W → Calls Tryz.prog 73 #[.slice kp kn kc] W (TxP (listC numC xks []) W)) := Lib.hid (fun W hW => M6.out W (B1.out.trans (Below.mono hW B1.out.size)))
        have S00 := Bl.refl w5
        go_region_held3 (fun W => Bl w5 W) ((repeat (first | with_reducible assumption | with_reducible refine Bl.alloc ?_ _ | with_reducible refine Bl.drew ?_ | (with_reducible refine Bl.set ?_ ?h _; case h => omega))))
          (first | (go_at_call 23; refine (M1.out _).mono ?_; rintro e w11 ⟨z1, rfl, hz, hb1⟩; have B11 : Bl w5 w11 := Bl.call (by (repeat (first | with_reducible assumption | with_reducible refine Bl.drew ?_))) hb1; have Z1 := Lib.hid hz; have l1 : z1.size ≤ 20 := (by rw [TxP.size hz]; exact F1.out); have s1 : ¬ 9223372036854775807 < zz.size + z1.size := (by omega); clear hb1 hz) | (go_at_call 23; refine (M2.out _).mono ?_; rintro e w12 ⟨z2, rfl, hz, hb1⟩; have B12 : Bl w5 w12 := Bl.call (by (repeat (first | with_reducible assumption | with_reducible refine Bl.drew ?_))) hb1; have Z2 := Lib.hid hz; have l2 : z2.size ≤ 20 := (by rw [TxP.size hz]; exact F2.out); have s2 : ¬ 9223372036854775807 < zz.size + z1.size + z2.size := (by omega); clear hb1 hz) | (go_at_call 23; refine (M3.out _).mono ?_; rintro e w13 ⟨z3, rfl, hz, hb1⟩; have B13 : Bl w5 w13 := Bl.call (by (repeat (first | with_reducible assumption | with_reducible refine Bl.drew ?_))) hb1; have Z3 := Lib.hid hz; have l3 : z3.size ≤ 20 := (by rw [TxP.size hz]; exact F3.out); have s3 : ¬ 9223372036854775807 < zz.size + z1.size + z2.size + z3.size := (by omega); clear hb1 hz) | (go_at_call 23; refine (M4.out _).mono ?_; rintro e w14 ⟨z4, rfl, hz, hb1⟩; have B14 : Bl w5 w14 := Bl.call (by (repeat (first | with_reducible assumption | with_reducible refine Bl.drew ?_))) hb1; have Z4 := Lib.hid hz; have l4 : z4.size ≤ 20 := (by rw [TxP.size hz]; exact F4.out); have s4 : ¬ 9223372036854775807 < zz.size + z1.size + z2.size + z3.size + z4.size := (by omega); clear hb1 hz) | (go_at_call 23; refine (M5.out _).mono ?_; rintro e w15 ⟨z5, rfl, hz, hb1⟩; have B15 : Bl w5 w15 := Bl.call (by (repeat (first | with_reducible assumption | with_reducible refine Bl.drew ?_))) hb1; have Z5 := Lib.hid hz; have l5 : z5.size ≤ 20 := (by rw [TxP.size hz]; exact F5.out); have s5 : ¬ 9223372036854775807 < zz.size + z1.size + z2.size + z3.size + z4.size + z5.size := (by omega); clear hb1 hz) | (go_at_call 73; refine (M7.out _ (by (repeat (first | with_reducible assumption | with_reducible refine Bl.drew ?_)))).mono ?_; rintro e w16 ⟨z6, rfl, hz, hb1⟩; have B16 : Bl w5 w16 := Bl.call (by (repeat (first | with_reducible assumption | with_reducible refine Bl.drew ?_))) hb1; have Z6 := Lib.hid hz; have l6 : z6.size ≤ K := (by rw [TxP.size hz]; exact Nat.le_of_eq F6.out); have s6 : ¬ 9223372036854775807 < zz.size + z1.size + z2.size + z3.size + z4.size + z5.size + z6.size := (by omega); clear hb1 hz) | fail)
        all_goals
          go_wp2_with fail
          go_roundw
          case rel => exact ⟨i + 1, _, by omega, by go_num, rfl, Lib.hid (by rw [bytes_app, bytes_app, bytes_app, bytes_app, bytes_app, bytes_app, ZZ.out, Z1.out, Z2.out, Z3.out, Z4.out, Z5.out, Z6.out, RS.out]; simp only [List.append_assoc]), Lib.hid (B.out.trans (Below.mono (B1.out.trans (Below.mono (by assumption) B1.out.size)) B.out.size))⟩
          case measure => simp [intOf]; omega
      · go_wp2_with fail
        go_ret
        refine ⟨_, rfl, ?_, B0.out.trans (Below.mono B.out B0.out.size)⟩
        rw [ZZ.out, List.take_of_length_le (by rw [HN.out]; omega), TS'.out]
        simp only [List.append_assoc]

end Go.Proofs.YtjmfjlffcopnnaaGreatDoor

namespace Go.Proofs.YtjmfjlffcopnnaaGreatDoor
open Go.RowKit

/-- A step as a value. -/
def stV (s : St) (kp : Option Addr) (kc : Nat) : Value := .agg #[.int .i64 s.kd, .int .i64 s.id, .int .i64 s.nd, .int .i64 s.fr, .int .i64 (St.to s), .slice kp s.kids.length kc]

set_option maxRecDepth 100000 in
set_option maxHeartbeats 4000000 in
theorem stepMay_0 (s : St) (kp : Option Addr) (kc : Nat) (w : World) (hk : s.kd = 0) (hl : s.kids.length ≤ 140737488355328) : Calls Tryz.prog 97 #[stV s kp kc] w (RetBelow (.returned (.bool (stepMay s))) w) := by
  obtain ⟨skd, sid, snd, sfr, sto, kids⟩ := s
  dsimp only at hk hl
  subst hk
  have E : Hid (stepMay ⟨0, sid, snd, sfr, sto, kids⟩ = ((decide (0 ≤ sid) && decide (sid < 16777216)) && snd == 0 && sfr == 0 && sto == 0 && decide (kids.length = 0))) := Lib.hid (by
    unfold stepMay idB
    cases kids <;> simp [Bool.and_assoc])
  unfold stV
  dsimp only
  rw [E.out]
  clear E
  generalize kids.length = kn at *
  go_enter Tryz.func97, Tryz.ntmps97
  go_wp2_with fail
  all_goals
    go_ret
    exact ⟨retB (by first | (simp_all; done) | (simp_all; omega) | (rw [Bool.eq_iff_iff]; simp_all; done) | (rw [Bool.eq_iff_iff]; simp_all; omega)), below2 (Below.refl _ _) (Nat.le_refl _) _ _⟩

set_option maxRecDepth 100000 in
set_option maxHeartbeats 4000000 in
theorem stepMay_1 (s : St) (kp : Option Addr) (kc : Nat) (w : World) (hk : s.kd = 1) (hl : s.kids.length ≤ 140737488355328) : Calls Tryz.prog 97 #[stV s kp kc] w (RetBelow (.returned (.bool (stepMay s))) w) := by
  obtain ⟨skd, sid, snd, sfr, sto, kids⟩ := s
  dsimp only at hk hl
  subst hk
  have E : Hid (stepMay ⟨1, sid, snd, sfr, sto, kids⟩ = ((decide (0 ≤ sid) && decide (sid < 16777216)) && decide (0 ≤ snd) && decide (snd ≤ 7) && sfr == 0 && sto == 0 && decide (kids.length = 0))) := Lib.hid (by
    unfold stepMay idB
    cases kids <;> simp [Bool.and_assoc])
  unfold stV
  dsimp only
  rw [E.out]
  clear E
  generalize kids.length = kn at *
  go_enter Tryz.func97, Tryz.ntmps97
  go_wp2_with fail
  all_goals
    go_ret
    exact ⟨retB (by first | (simp_all; done) | (simp_all; omega) | (rw [Bool.eq_iff_iff]; simp_all; done) | (rw [Bool.eq_iff_iff]; simp_all; omega)), below2 (Below.refl _ _) (Nat.le_refl _) _ _⟩

set_option maxRecDepth 100000 in
set_option maxHeartbeats 4000000 in
theorem stepMay_3 (s : St) (kp : Option Addr) (kc : Nat) (w : World) (hk : s.kd = 3) (hl : s.kids.length ≤ 140737488355328) : Calls Tryz.prog 97 #[stV s kp kc] w (RetBelow (.returned (.bool (stepMay s))) w) := by
  obtain ⟨skd, sid, snd, sfr, sto, kids⟩ := s
  dsimp only at hk hl
  subst hk
  have E : Hid (stepMay ⟨3, sid, snd, sfr, sto, kids⟩ = ((decide (0 ≤ sid) && decide (sid < 16777216)) && snd == 0 && decide (0 ≤ sfr) && decide (sfr ≤ sto) && decide (sto ≤ 4096) && decide (kids.length = 0))) := Lib.hid (by
    unfold stepMay idB
    cases kids <;> simp [Bool.and_assoc])
  unfold stV
  dsimp only
  rw [E.out]
  clear E
  generalize kids.length = kn at *
  go_enter Tryz.func97, Tryz.ntmps97
  go_wp2_with fail
  all_goals
    go_ret
    exact ⟨retB (by first | (simp_all; done) | (simp_all; omega) | (rw [Bool.eq_iff_iff]; simp_all; done) | (rw [Bool.eq_iff_iff]; simp_all; omega)), below2 (Below.refl _ _) (Nat.le_refl _) _ _⟩

set_option maxRecDepth 100000 in
set_option maxHeartbeats 4000000 in
theorem stepMay_x (s : St) (kp : Option Addr) (kc : Nat) (w : World) (h0 : ¬ s.kd = 0) (h1 : ¬ s.kd = 1) (h2 : ¬ s.kd = 2) (h3 : ¬ s.kd = 3) : Calls Tryz.prog 97 #[stV s kp kc] w (RetBelow (.returned (.bool (stepMay s))) w) := by
  obtain ⟨skd, sid, snd, sfr, sto, kids⟩ := s
  dsimp only at h0 h1 h2 h3
  have E : Hid (stepMay ⟨skd, sid, snd, sfr, sto, kids⟩ = false) := Lib.hid (by
    unfold stepMay
    simp [h0, h1, h2, h3])
  have q0 : (skd == 0) = false := beq_eq_false_iff_ne.2 h0
  have q1 : (skd == 1) = false := beq_eq_false_iff_ne.2 h1
  have q2 : (skd == 2) = false := beq_eq_false_iff_ne.2 h2
  have q3 : (skd == 3) = false := beq_eq_false_iff_ne.2 h3
  unfold stV
  dsimp only
  rw [E.out]
  clear E
  generalize kids.length = kn at *
  go_enter Tryz.func97, Tryz.ntmps97
  go_wp2_with fail
  all_goals
    go_ret
    exact ⟨rfl, below2 (Below.refl _ _) (Nat.le_refl _) _ _⟩

set_option maxRecDepth 100000 in
set_option maxHeartbeats 4000000 in
theorem stepMay_2 (s : St) (kp : Option Addr) (kc : Nat) (w : World) (hk : s.kd = 2) (hr : lyI.Row w kp s.kids) (hl : s.kids.length ≤ 140737488355328) : Calls Tryz.prog 97 #[stV s kp kc] w (RetBelow (.returned (.bool (stepMay s))) w) := by
  obtain ⟨skd, sid, snd, sfr, sto, kids⟩ := s
  dsimp only at hk hl hr
  subst hk
  have E : Hid (stepMay ⟨2, sid, snd, sfr, sto, kids⟩ = ((idB sid && kids.all idB) && decide (kids.length ≤ 2048) && snd == 0 && sfr == 0 && sto == 0)) := Lib.hid (by
    unfold stepMay
    rw [Bool.eq_iff_iff]
    constructor <;> intro h <;> simp_all)
  have AT : Hid (∀ (j : Nat) c, kids[j]? = some c → (kids.take (j + 1)).all idB = ((kids.take j).all idB && idB c)) := Lib.hid (fun j c hc => by
    rw [List.take_add_one, hc, List.all_append]; simp)
  have AN : Hid (∀ j, kids.length ≤ j → (kids.take j).all idB = kids.all idB) := Lib.hid (fun j hj => by rw [List.take_of_length_le hj])
  have R := Lib.hid hr
  unfold stV
  dsimp only
  rw [E.out]
  clear E hr
  obtain ⟨kn, hkn⟩ : ∃ kn, kids.length = kn := ⟨_, rfl⟩
  rw [hkn] at hl AN ⊢
  obtain ⟨fb, hfb⟩ : ∃ fb, ((idB sid && kids.all idB) && decide (kn ≤ 2048) && snd == 0 && sfr == 0 && sto == 0) = fb := ⟨_, rfl⟩
  rw [hfb]
  have FB := Lib.hid hfb
  clear hfb
  have KN := Lib.hid hkn
  clear hkn
  have BW : Hid (Below w.heap.size w ((w.alloc (.cells #[.int .i64 2, .int .i64 sid, .int .i64 snd, .int .i64 sfr, .int .i64 sto, .slice kp kn kc] 51)).alloc (.cells #[.int .i64 2, .int .i64 sid, .int .i64 0, .int .i64 0, .int .i64 0, .slice none 0 0] 51))) := Lib.hid (below2 (Below.refl _ _) (Nat.le_refl _) _ _)
  have A2 : Hid (((w.alloc (.cells #[.int .i64 2, .int .i64 sid, .int .i64 snd, .int .i64 sfr, .int .i64 sto, .slice kp kn kc] 51)).alloc (.cells #[.int .i64 2, .int .i64 sid, .int .i64 0, .int .i64 0, .int .i64 0, .slice none 0 0] 51)).heap[w.heap.size]? = some (.cells #[.int .i64 2, .int .i64 sid, .int .i64 snd, .int .i64 sfr, .int .i64 sto, .slice kp kn kc] 51 (0, 0))) := Lib.hid (((below1 (Below.refl _ _) (Nat.le_refl _) _).block w.heap.size (by simp)).trans (heap_alloc_new w _))
  have B2 : Hid (((w.alloc (.cells #[.int .i64 2, .int .i64 sid, .int .i64 snd, .int .i64 sfr, .int .i64 sto, .slice kp kn kc] 51)).alloc (.cells #[.int .i64 2, .int .i64 sid, .int .i64 0, .int .i64 0, .int .i64 0, .slice none 0 0] 51)).heap[w.heap.size + 1]? = some (.cells #[.int .i64 2, .int .i64 sid, .int .i64 0, .int .i64 0, .int .i64 0, .slice none 0 0] 51 (0, 0))) := Lib.hid (by
    have := heap_alloc_new (w.alloc (.cells #[.int .i64 2, .int .i64 sid, .int .i64 snd, .int .i64 sfr, .int .i64 sto, .slice kp kn kc] 51)) (.cells #[.int .i64 2, .int .i64 sid, .int .i64 0, .int .i64 0, .int .i64 0, .slice none 0 0] 51)
    rwa [show (w.alloc (.cells #[.int .i64 2, .int .i64 sid, .int .i64 snd, .int .i64 sfr, .int .i64 sto, .slice kp kn kc] 51)).heap.size = w.heap.size + 1 by simp] at this)
  go_enter Tryz.func97, Tryz.ntmps97
  go_upto_region 2 with fail
  generalize (w.alloc (.cells #[.int .i64 2, .int .i64 sid, .int .i64 snd, .int .i64 sfr, .int .i64 sto, .slice kp kn kc] 51)).alloc (.cells #[.int .i64 2, .int .i64 sid, .int .i64 0, .int .i64 0, .int .i64 0, .slice none 0 0] 51) = w2 at BW A2 B2 ⊢
  have a0 := (obj_cells A2.out).1 0 _ rfl
  have a1 := (obj_cells A2.out).1 1 _ rfl
  have a2 := (obj_cells A2.out).1 2 _ rfl
  have a3 := (obj_cells A2.out).1 3 _ rfl
  have a4 := (obj_cells A2.out).1 4 _ rfl
  have a5 := (obj_cells A2.out).1 5 _ rfl
  have b2 := (obj_cells B2.out).1 2 _ rfl
  have b3 := (obj_cells B2.out).1 3 _ rfl
  have b4 := (obj_cells B2.out).1 4 _ rfl
  go_cut [4] (fun v wx => v = .bool (idB sid) ∧ w2 = wx)
  case first =>
    go_wp2_with fail
    all_goals
      go_meet
      exact ⟨by unfold idB; first | (simp_all; done) | (simp_all; intro h; omega), rfl⟩
  case rest =>
    obtain ⟨rfl, rfl⟩ := hcut
    go_wp2_with fail
    go_loopw [4, 5] (fun v4 v5 wr => ∃ j : Nat, j ≤ kn ∧ v5 = .int .i64 j ∧ v4 = .bool (idB sid && (kids.take j).all idB) ∧ wr = w2) (fun _ v5 _ => kn - (intOf v5).toNat)
    case atStart => exact ⟨0, by omega, rfl, by simp, rfl⟩
    case round =>
      obtain ⟨j, hj, rfl, rfl, rfl⟩ := hrel
      by_cases hlt : j < kn
      · obtain ⟨c, hc⟩ : ∃ c, kids[j]? = some c := ⟨_, List.getElem?_eq_getElem (by rw [KN.out]; exact hlt)⟩
        obtain ⟨kb, ko, rfl, d0⟩ := ints_at R.out hc
        have d1 := cell_later BW.out d0
        have AC := Lib.hid (AT.out j c hc)
        have hj0 : (0 : Int) ≤ (j : Int) := by omega
        have hj1 : (j : Int) < (kn : Int) := by omega
        clear hc d0
        cases hb : (idB sid && (kids.take j).all idB) with
        | false =>
          have NB : Hid ((idB sid && (kids.take (j + 1)).all idB) = false) := Lib.hid (by rw [AC.out, ← Bool.and_assoc, hb]; rfl)
          clear hb
          go_wp2_with fail
          go_roundw
          case rel => exact ⟨j + 1, by omega, by go_num, by rw [NB.out], trivial⟩
          case measure => simp [intOf]; omega
        | true =>
          have NB : Hid ((idB sid && (kids.take (j + 1)).all idB) = idB c) := Lib.hid (by rw [AC.out, ← Bool.and_assoc, hb]; rfl)
          clear hb
          go_wp2_with fail
          all_goals
            go_roundw
            case rel => exact ⟨j + 1, by omega, by go_num, by rw [NB.out]; unfold idB; first | (simp_all; done) | (simp_all; intro h; omega), trivial⟩
            case measure => simp [intOf]; omega
      · have AL := Lib.hid (AN.out j (by omega))
        rw [AL.out]
        clear AT AN AL
        cases hb : (idB sid && kids.all idB) with
        | false =>
          rw [hb] at FB
          clear hb
          go_wp2_with fail
          all_goals
            go_ret
            exact ⟨retB (by rw [← FB.out]; simp), BW.out⟩
        | true =>
          rw [hb] at FB
          clear hb
          go_wp2_with fail
          all_goals
            go_ret
            exact ⟨retB (by rw [← FB.out]; first | (simp_all; done) | (simp_all; omega) | (rw [Bool.eq_iff_iff]; simp_all; done) | (rw [Bool.eq_iff_iff]; simp_all; omega)), BW.out⟩
theorem stepMay_any (s : St) (kp : Option Addr) (kc : Nat) (w : World) (hr : lyI.Row w kp s.kids) (hl : s.kids.length ≤ 140737488355328) : Calls Tryz.prog 97 #[stV s kp kc] w (RetBelow (.returned (.bool (stepMay s))) w) := by
  by_cases h0 : s.kd = 0
  · exact stepMay_0 s kp kc w h0 hl
  · by_cases h1 : s.kd = 1
    · exact stepMay_1 s kp kc w h1 hl
    · by_cases h2 : s.kd = 2
      · exact stepMay_2 s kp kc w h2 hr hl
      · by_cases h3 : s.kd = 3
        · exact stepMay_3 s kp kc w h3 hl
        · exact stepMay_x s kp kc w h0 h1 h2 h3

end Go.Proofs.YtjmfjlffcopnnaaGreatDoor
