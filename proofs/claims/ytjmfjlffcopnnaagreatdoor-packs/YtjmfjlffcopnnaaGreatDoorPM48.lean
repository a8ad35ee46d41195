/-
  The program's taker: lists of pieces, steps, nodes; entries and lists of them; a tree: the walks (made by tools/genqi.py, genqr.py). Conditions: as each theorem's premises say.
-/
import Derived.Test.YtjmfjlffcopnnaaGreatDoorPM47
import Derived.Test.YtjmfjlffcopnnaaGreatDoorPM27
namespace Go.Proofs.YtjmfjlffcopnnaaGreatDoor
open Go.RowKit
open Go.Proofs.YtjmfjlffcopnnaaGreatDoor.K (C)

def QCs (tb : Nat) (z : ByteArray) (b : Bool) (w : World) (en : Ending) (w' : World) : Prop := ∃ (kp : Option Addr) (kn kc : Nat) (l : List C) (z' : ByteArray) (b' : Bool), en = .returned (.slice kp kn kc) ∧ l.length = kn ∧ (lyC.Own w' w.heap.size (.slice kp kn kc) l) ∧ Took (LiP QCp) (listC compC) (bytesOf z) b l (bytesOf z') b' ∧ TkP w' tb z' b' ∧ w.grownBy w' (some tb)
set_option maxRecDepth 100000 in
set_option maxHeartbeats 4000000 in
theorem qcs_any (z : ByteArray) (tb : Nat) (b : Bool) (w : World) (ONE : ∀ z b w, TkP w tb z b → Calls Tryz.prog 77 #[.pointer (some ⟨tb, 0, none⟩)] w (QCmp tb z b w)) (h : TkP w tb z b) : Calls Tryz.prog 76 #[.pointer (some ⟨tb, 0, none⟩), .func (.func 77) #[.pointer (some ⟨tb, 0, none⟩)] #[]] w (QCs tb z b w) := by
  obtain ⟨i0, hi, hz0, hz1, hz2⟩ := info_parts info48
  have D := Lib.hid (qnum_any z tb b w h)
  clear h
  go_enter Tryz.func76, Tryz.ntmps76
  go_upto_region 3 with (go_at_call 75; refine D.out.mono ?_; rintro e w1 ⟨N, z1, b1, rfl, hN, hk, hT, hg⟩; have T := Lib.hid hT; have G := Lib.hid hg; have TI0 := Lib.hid (taki_start (P := QCp) (f := compC) hk); clear hT hg hk)
  clear D
  go_loopw [5, 6] (fun v5 v6 wr => ∃ (r : Nat) (z2 : ByteArray) (b2 : Bool) (acc : List C) , v6 = .int .i64 r ∧ Hid (acc.length + r = N) ∧ Hid (TakI QCp compC (bytesOf z) b N acc (bytesOf z2) b2) ∧ Hid (TkP wr tb z2 b2) ∧ Hid (lyC.Own wr w.heap.size v5 acc) ∧ Hid (w.grownBy wr (some tb))) (fun _ v6 _ => (intOf v6).toNat)
  case atStart => exact ⟨N, z1, b1, [], rfl, Lib.hid (by simp), TI0, T, Lib.hid (Ly.Own.nil _ _), G⟩
  case round =>
    clear TI0 T G
    obtain ⟨r, z2, b2, acc, rfl, HR, TI, T2, O, G2⟩ := hrel
    have c1 : wr.cell? ⟨tb, 1, none⟩ = some (.bool b2) := (obj_cells T2.out.obj).1 1 _ rfl
    obtain ⟨p0, cap, rfl⟩ := O.out.form
    obtain ⟨M, hM⟩ : ∃ M, acc.length = M := ⟨_, rfl⟩
    have LE : Hid (acc.length = M) := Lib.hid hM
    have HM := Lib.hid hM
    rw [hM] at O ⊢
    have hMr : M + r = N := by have := HR.out; have := LE.out; omega
    have FIN : Hid (b2 = true ∨ r = 0 → Took (LiP QCp) (listC compC) (bytesOf z) b acc (bytesOf z2) b2) := Lib.hid (fun h => TI.out.done hN (h.imp id (fun h => by have := HR.out; omega)))
    clear hM
    by_cases q1 : r = 0
    · have q0 : ¬ 0 < r := by omega
      have Q1 := Lib.hid q1
      clear q1
      go_wp2_with fail
      go_ret
      exact ⟨p0, M, cap, acc, z2, b2, rfl, LE.out, O.out, FIN.out (.inr Q1.out), T2.out, G2.out⟩
    · have q0 : 0 < r := by omega
      cases b2 with
      | true =>
        go_wp2_with fail
        go_ret
        exact ⟨p0, M, cap, acc, z2, true, rfl, LE.out, O.out, FIN.out (.inl (by simp)), T2.out, G2.out⟩
      | false =>
        clear FIN
        have ON := Lib.hid (ONE z2 false wr T2.out)
        have KEEP : Hid (∀ W, wr.grownBy W (some tb) → W.ownsRow w.heap.size 48 3 (.slice p0 M cap) M (lyC.all acc)) := Lib.hid (fun W hW => by
          have := Ly.Own.kept O.out hW (fun g hg e => by
            cases e
            obtain ⟨cur, hcur⟩ := Ly.Own.obj O.out hg
            exact type_ne hcur T2.out.obj (by decide) rfl)
          unfold Ly.Own at this
          rw [HM.out] at this
          exact this)
        have NE : Hid (∀ g, (Value.slice p0 M cap).ownBlock = some g → g ≠ tb) := Lib.hid (fun g hg e => by
          subst e
          obtain ⟨cur, hcur⟩ := Ly.Own.obj O.out hg
          exact type_ne hcur T2.out.obj (by decide) rfl)
        have v1 : IntKind.i64.wrap ((r : Int) - 1) = ((r - 1 : Nat) : Int) := by rw [IntWalk.i64_in _ (by omega)]; omega
        go_wp2_with (first | (go_at_call 77; refine ON.out.mono ?_; rintro e w2 ⟨⟨ck, cn, ct⟩, z3, b3, rfl, hk, hT, hg⟩; have T3 := Lib.hid hT; have K3 := Lib.hid hk; have G3 := Lib.hid hg; clear hT hk hg) | (at_builtin; refine wpList_append_all _ rfl _ _ 22 rfl w.heap.size 48 i0 _ 3 32 Tryz.underlying22 hi hz0 hz1 hz2 rfl (by decide) (.slice p0 M cap) M (lyC.all acc) rfl (World.ownsRow.alloc (KEEP.out _ G3.out) _) (some ⟨w2.heap.size, 0, none⟩) 1 1 (lyC.cells ⟨ck, cn, ct⟩) rfl rfl (fun e => by cases e) (fun ad hp => by cases hp; exact World.news_of_block (heap_alloc_new w2 _)) (lyC.one ⟨ck, cn, ct⟩) (by unfold maxLen; omega) (by omega) (Nat.le_trans (Nat.le_trans G2.out.size G3.out.size) (by simp)) (M + 1) rfl ?_; intro p5 cap5 w5 hown5 hgrow5 hblk5; have H5 := Lib.hid hown5; have G5 := Lib.hid hgrow5; clear hown5 hgrow5 hblk5))
        go_roundw
        case rel =>
          refine ⟨r - 1, z3, b3, acc ++ [⟨ck, cn, ct⟩], by go_num, Lib.hid (by rw [List.length_append, List.length_singleton]; have := LE.out; omega), Lib.hid (TI.out.step cp_ur hN (by have := LE.out; omega) K3.out), Lib.hid ?_, Lib.hid ?_, Lib.hid ?_⟩
          · exact (T3.out.kept (World.grownBy_alloc w2 _ none) (fun g e => by cases e)).kept G5.out NE.out
          · unfold Ly.Own
            rw [List.length_append, HM.out, List.length_singleton, all_app, all_one]
            exact H5.out
          · exact grown_trans (grown_trans G2.out G3.out (fun g e => .inl e)) (grown_trans (World.grownBy_alloc w2 _ (Value.slice p0 M cap).ownBlock) G5.out (fun g e => .inl e)) (fun g e => .inr (Ly.Own.lt O.out e).1)
        case measure => simp [intOf]; omega
def QSs (tb : Nat) (z : ByteArray) (b : Bool) (w : World) (en : Ending) (w' : World) : Prop := ∃ (kp : Option Addr) (kn kc : Nat) (l : List St) (z' : ByteArray) (b' : Bool), en = .returned (.slice kp kn kc) ∧ l.length = kn ∧ (∃ vs, OwnSA w' w.heap.size (.slice kp kn kc) vs l) ∧ Took (LiP QSt) (listC stepC) (bytesOf z) b l (bytesOf z') b' ∧ TkP w' tb z' b' ∧ w.grownBy w' (some tb)
set_option maxRecDepth 100000 in
set_option maxHeartbeats 4000000 in
theorem qss_any (z : ByteArray) (tb : Nat) (b : Bool) (w : World) (ONE : ∀ z b w, TkP w tb z b → Calls Tryz.prog 115 #[.pointer (some ⟨tb, 0, none⟩)] w (QStp tb z b w)) (h : TkP w tb z b) : Calls Tryz.prog 114 #[.pointer (some ⟨tb, 0, none⟩), .func (.func 115) #[.pointer (some ⟨tb, 0, none⟩)] #[]] w (QSs tb z b w) := by
  obtain ⟨i0, hi, hz0, hz1, hz2⟩ := info_parts info68
  have D := Lib.hid (qnum_any z tb b w h)
  clear h
  go_enter Tryz.func114, Tryz.ntmps114
  go_upto_region 3 with (go_at_call 75; refine D.out.mono ?_; rintro e w1 ⟨N, z1, b1, rfl, hN, hk, hT, hg⟩; have T := Lib.hid hT; have G := Lib.hid hg; have TI0 := Lib.hid (taki_start (P := QSt) (f := stepC) hk); clear hT hg hk)
  clear D
  go_loopw [5, 6] (fun v5 v6 wr => ∃ (r : Nat) (z2 : ByteArray) (b2 : Bool) (acc : List St) (vs : List Sv) , v6 = .int .i64 r ∧ Hid (acc.length + r = N) ∧ Hid (TakI QSt stepC (bytesOf z) b N acc (bytesOf z2) b2) ∧ Hid (TkP wr tb z2 b2) ∧ Hid (OwnSA wr w.heap.size v5 vs acc) ∧ Hid (w.grownBy wr (some tb))) (fun _ v6 _ => (intOf v6).toNat)
  case atStart => exact ⟨N, z1, b1, [], [], rfl, Lib.hid (by simp), TI0, T, Lib.hid (OwnSA.nil _ _), G⟩
  case round =>
    clear TI0 T G
    obtain ⟨r, z2, b2, acc, vs, rfl, HR, TI, T2, O, G2⟩ := hrel
    have c1 : wr.cell? ⟨tb, 1, none⟩ = some (.bool b2) := (obj_cells T2.out.obj).1 1 _ rfl
    obtain ⟨p0, cap, rfl⟩ := O.out.own.row.form
    obtain ⟨M, hM⟩ : ∃ M, vs.length = M := ⟨_, rfl⟩
    have LE : Hid (acc.length = M) := Lib.hid (by rw [← hM]; exact O.out.own.len.symm)
    have HM := Lib.hid hM
    rw [hM] at O ⊢
    have hMr : M + r = N := by have := HR.out; have := LE.out; omega
    have FIN : Hid (b2 = true ∨ r = 0 → Took (LiP QSt) (listC stepC) (bytesOf z) b acc (bytesOf z2) b2) := Lib.hid (fun h => TI.out.done hN (h.imp id (fun h => by have := HR.out; omega)))
    clear hM
    by_cases q1 : r = 0
    · have q0 : ¬ 0 < r := by omega
      have Q1 := Lib.hid q1
      clear q1
      go_wp2_with fail
      go_ret
      exact ⟨p0, M, cap, acc, z2, b2, rfl, LE.out, ⟨vs, O.out⟩, FIN.out (.inr Q1.out), T2.out, G2.out⟩
    · have q0 : 0 < r := by omega
      cases b2 with
      | true =>
        go_wp2_with fail
        go_ret
        exact ⟨p0, M, cap, acc, z2, true, rfl, LE.out, ⟨vs, O.out⟩, FIN.out (.inl (by simp)), T2.out, G2.out⟩
      | false =>
        clear FIN
        have ON := Lib.hid (ONE z2 false wr T2.out)
        have KEEP : Hid (∀ W, wr.grownBy W (some tb) → W.ownsRow w.heap.size 51 6 (.slice p0 M cap) M (lyS.all vs)) := Lib.hid (fun W hW => by
          have := Ly.Own.kept O.out.own.row hW (fun g hg e => by
            cases e
            obtain ⟨cur, hcur⟩ := Ly.Own.obj O.out.own.row hg
            exact type_ne hcur T2.out.obj (by decide) rfl)
          unfold Ly.Own at this
          rw [HM.out] at this
          exact this)
        have NE : Hid (∀ g, (Value.slice p0 M cap).ownBlock = some g → g ≠ tb) := Lib.hid (fun g hg e => by
          subst e
          obtain ⟨cur, hcur⟩ := Ly.Own.obj O.out.own.row hg
          exact type_ne hcur T2.out.obj (by decide) rfl)
        have v1 : IntKind.i64.wrap ((r : Int) - 1) = ((r - 1 : Nat) : Int) := by rw [IntWalk.i64_in _ (by omega)]; omega
        go_wp2_with (first | (go_at_call 115; refine ON.out.mono ?_; rintro e w2 ⟨x1, x2, x3, x4, x5, kp, kn, kc, ks, z3, b3, rfl, hl, ho, hk, hT, hg⟩; have T3 := Lib.hid hT; have K3 := Lib.hid hk; have G3 := Lib.hid hg; have HL := Lib.hid hl; have HO := Lib.hid ho; clear hl ho; clear hT hk hg) | (at_builtin; refine wpList_append_all _ rfl _ _ 52 rfl w.heap.size 51 i0 _ 6 64 Tryz.underlying52 hi hz0 hz1 hz2 rfl (by decide) (.slice p0 M cap) M (lyS.all vs) rfl (World.ownsRow.alloc (KEEP.out _ G3.out) _) (some ⟨w2.heap.size, 0, none⟩) 1 1 (Sv.cells ⟨x1, x2, x3, x4, x5, kp, kn, kc⟩) rfl rfl (fun e => by cases e) (fun ad hp => by cases hp; exact six_new rfl ⟨x1, x2, x3, x4, x5, kp, kn, kc⟩) (lyS.one ⟨x1, x2, x3, x4, x5, kp, kn, kc⟩) (by unfold maxLen; omega) (by omega) (Nat.le_trans (Nat.le_trans G2.out.size G3.out.size) (by simp)) (M + 1) rfl ?_; intro p5 cap5 w5 hown5 hgrow5 hblk5; have H5 := Lib.hid hown5; have G5 := Lib.hid hgrow5; clear hown5 hgrow5 hblk5))
        go_roundw
        case rel =>
          refine ⟨r - 1, z3, b3, acc ++ [⟨x1, x2, x3, x4, x5, ks⟩], vs ++ [⟨x1, x2, x3, x4, x5, kp, kn, kc⟩], by go_num, Lib.hid (by rw [List.length_append, List.length_singleton]; have := LE.out; omega), Lib.hid (TI.out.step st_ur hN (by have := LE.out; omega) K3.out), Lib.hid ?_, Lib.hid ?_, Lib.hid ?_⟩
          · exact (T3.out.kept (World.grownBy_alloc w2 _ none) (fun g e => by cases e)).kept G5.out NE.out
          · refine O.out.pushT T2.out.obj G2.out.size G3.out ⟨rfl, rfl, rfl, rfl, rfl, HO.out⟩ G5.out ?_
            unfold Ly.Own
            rw [List.length_append, HM.out, List.length_singleton, all_app, all_one]
            exact H5.out
          · exact grown_trans (grown_trans G2.out G3.out (fun g e => .inl e)) (grown_trans (World.grownBy_alloc w2 _ (Value.slice p0 M cap).ownBlock) G5.out (fun g e => .inl e)) (fun g e => .inr (Ly.Own.lt O.out.own.row e).1)
        case measure => simp [intOf]; omega
def QNs (tb : Nat) (z : ByteArray) (b : Bool) (w : World) (en : Ending) (w' : World) : Prop := ∃ (kp : Option Addr) (kn kc : Nat) (l : List Nd) (z' : ByteArray) (b' : Bool), en = .returned (.slice kp kn kc) ∧ l.length = kn ∧ (∃ vs, OwnT w' w.heap.size (.slice kp kn kc) vs l) ∧ Took (LiP QNd) (listC nodeC) (bytesOf z) b l (bytesOf z') b' ∧ TkP w' tb z' b' ∧ w.grownBy w' (some tb)
set_option maxRecDepth 100000 in
set_option maxHeartbeats 4000000 in
theorem qns_any (z : ByteArray) (tb : Nat) (b : Bool) (w : World) (ONE : ∀ z b w, TkP w tb z b → Calls Tryz.prog 118 #[.pointer (some ⟨tb, 0, none⟩)] w (QNod tb z b w)) (h : TkP w tb z b) : Calls Tryz.prog 117 #[.pointer (some ⟨tb, 0, none⟩), .func (.func 118) #[.pointer (some ⟨tb, 0, none⟩)] #[]] w (QNs tb z b w) := by
  obtain ⟨i0, hi, hz0, hz1, hz2⟩ := info_parts info63
  have D := Lib.hid (qnum_any z tb b w h)
  clear h
  go_enter Tryz.func117, Tryz.ntmps117
  go_upto_region 3 with (go_at_call 75; refine D.out.mono ?_; rintro e w1 ⟨N, z1, b1, rfl, hN, hk, hT, hg⟩; have T := Lib.hid hT; have G := Lib.hid hg; have TI0 := Lib.hid (taki_start (P := QNd) (f := nodeC) hk); clear hT hg hk)
  clear D
  go_loopw [5, 6] (fun v5 v6 wr => ∃ (r : Nat) (z2 : ByteArray) (b2 : Bool) (acc : List Nd) (vs : List Nv) , v6 = .int .i64 r ∧ Hid (acc.length + r = N) ∧ Hid (TakI QNd nodeC (bytesOf z) b N acc (bytesOf z2) b2) ∧ Hid (TkP wr tb z2 b2) ∧ Hid (OwnT wr w.heap.size v5 vs acc) ∧ Hid (w.grownBy wr (some tb))) (fun _ v6 _ => (intOf v6).toNat)
  case atStart => exact ⟨N, z1, b1, [], [], rfl, Lib.hid (by simp), TI0, T, Lib.hid (ownT_none _ _), G⟩
  case round =>
    clear TI0 T G
    obtain ⟨r, z2, b2, acc, vs, rfl, HR, TI, T2, O, G2⟩ := hrel
    have c1 : wr.cell? ⟨tb, 1, none⟩ = some (.bool b2) := (obj_cells T2.out.obj).1 1 _ rfl
    obtain ⟨p0, cap, rfl⟩ := O.out.row.form
    obtain ⟨M, hM⟩ : ∃ M, vs.length = M := ⟨_, rfl⟩
    have LE : Hid (acc.length = M) := Lib.hid (by rw [← hM]; exact O.out.len.symm)
    have HM := Lib.hid hM
    rw [hM] at O ⊢
    have hMr : M + r = N := by have := HR.out; have := LE.out; omega
    have FIN : Hid (b2 = true ∨ r = 0 → Took (LiP QNd) (listC nodeC) (bytesOf z) b acc (bytesOf z2) b2) := Lib.hid (fun h => TI.out.done hN (h.imp id (fun h => by have := HR.out; omega)))
    clear hM
    by_cases q1 : r = 0
    · have q0 : ¬ 0 < r := by omega
      have Q1 := Lib.hid q1
      clear q1
      go_wp2_with fail
      go_ret
      exact ⟨p0, M, cap, acc, z2, b2, rfl, LE.out, ⟨vs, O.out⟩, FIN.out (.inr Q1.out), T2.out, G2.out⟩
    · have q0 : 0 < r := by omega
      cases b2 with
      | true =>
        go_wp2_with fail
        go_ret
        exact ⟨p0, M, cap, acc, z2, true, rfl, LE.out, ⟨vs, O.out⟩, FIN.out (.inl (by simp)), T2.out, G2.out⟩
      | false =>
        clear FIN
        have ON := Lib.hid (ONE z2 false wr T2.out)
        have KEEP : Hid (∀ W, wr.grownBy W (some tb) → W.ownsRow w.heap.size 109 5 (.slice p0 M cap) M (lyN.all vs)) := Lib.hid (fun W hW => by
          have := Ly.Own.kept O.out.row hW (fun g hg e => by
            cases e
            obtain ⟨cur, hcur⟩ := Ly.Own.obj O.out.row hg
            exact type_ne hcur T2.out.obj (by decide) rfl)
          unfold Ly.Own at this
          rw [HM.out] at this
          exact this)
        have NE : Hid (∀ g, (Value.slice p0 M cap).ownBlock = some g → g ≠ tb) := Lib.hid (fun g hg e => by
          subst e
          obtain ⟨cur, hcur⟩ := Ly.Own.obj O.out.row hg
          exact type_ne hcur T2.out.obj (by decide) rfl)
        have v1 : IntKind.i64.wrap ((r : Int) - 1) = ((r - 1 : Nat) : Int) := by rw [IntWalk.i64_in _ (by omega)]; omega
        go_wp2_with (first | (go_at_call 118; refine ON.out.mono ?_; rintro e w2 ⟨x1, x2, x3, x4, kp, kn, kc, ks, z3, b3, rfl, hl, ho, hk, hT, hg⟩; have T3 := Lib.hid hT; have K3 := Lib.hid hk; have G3 := Lib.hid hg; have HL := Lib.hid hl; have HO := Lib.hid ho; clear hl ho; clear hT hk hg) | (at_builtin; refine wpList_append_all _ rfl _ _ 24 rfl w.heap.size 109 i0 _ 5 56 Tryz.underlying24 hi hz0 hz1 hz2 rfl (by decide) (.slice p0 M cap) M (lyN.all vs) rfl (World.ownsRow.alloc (KEEP.out _ G3.out) _) (some ⟨w2.heap.size, 0, none⟩) 1 1 (Nv.cells ⟨x1, x2, x3, x4, kp, kn, kc⟩) rfl rfl (fun e => by cases e) (fun ad hp => by cases hp; exact five_new rfl ⟨x1, x2, x3, x4, kp, kn, kc⟩) (lyN.one ⟨x1, x2, x3, x4, kp, kn, kc⟩) (by unfold maxLen; omega) (by omega) (Nat.le_trans (Nat.le_trans G2.out.size G3.out.size) (by simp)) (M + 1) rfl ?_; intro p5 cap5 w5 hown5 hgrow5 hblk5; have H5 := Lib.hid hown5; have G5 := Lib.hid hgrow5; clear hown5 hgrow5 hblk5))
        go_roundw
        case rel =>
          refine ⟨r - 1, z3, b3, acc ++ [⟨x1, x2, x3, x4, ks⟩], vs ++ [⟨x1, x2, x3, x4, kp, kn, kc⟩], by go_num, Lib.hid (by rw [List.length_append, List.length_singleton]; have := LE.out; omega), Lib.hid (TI.out.step nd_ur hN (by have := LE.out; omega) K3.out), Lib.hid ?_, Lib.hid ?_, Lib.hid ?_⟩
          · exact (T3.out.kept (World.grownBy_alloc w2 _ none) (fun g e => by cases e)).kept G5.out NE.out
          · refine O.out.pushT T2.out.obj G2.out.size G3.out ⟨rfl, rfl, rfl, rfl, HO.out⟩ G5.out ?_
            unfold Ly.Own
            rw [List.length_append, HM.out, List.length_singleton, all_app, all_one]
            exact H5.out
          · exact grown_trans (grown_trans G2.out G3.out (fun g e => .inl e)) (grown_trans (World.grownBy_alloc w2 _ (Value.slice p0 M cap).ownBlock) G5.out (fun g e => .inl e)) (fun g e => .inr (Ly.Own.lt O.out.row e).1)
        case measure => simp [intOf]; omega
def QEnt (tb : Nat) (z : ByteArray) (b : Bool) (w : World) (en : Ending) (w' : World) : Prop := ∃ (cl sq : Int) (ep : Option Addr) (el ec : Nat) (ed : List C) (dp : Option Addr) (dn dc : Nat) (dl : List St) (us : List Sv) (z' : ByteArray) (b' : Bool), en = .returned (.agg #[.int .i64 cl, .int .i64 sq, .slice ep el ec, .slice dp dn dc]) ∧ (ed.length = el ∧ dl.length = dn) ∧ lyC.Own w' w.heap.size (.slice ep el ec) ed ∧ OwnSA w' w.heap.size (.slice dp dn dc) us dl ∧ Took QEn entC (bytesOf z) b ⟨cl, sq, ed, dl⟩ (bytesOf z') b' ∧ TkP w' tb z' b' ∧ w.grownBy w' (some tb)
set_option maxRecDepth 100000 in
set_option maxHeartbeats 4000000 in
theorem qent_any (z : ByteArray) (tb : Nat) (b : Bool) (w : World) (ONC : ∀ z b w, TkP w tb z b → Calls Tryz.prog 77 #[.pointer (some ⟨tb, 0, none⟩)] w (QCmp tb z b w)) (ONS : ∀ z b w, TkP w tb z b → Calls Tryz.prog 115 #[.pointer (some ⟨tb, 0, none⟩)] w (QStp tb z b w)) (h : TkP w tb z b) : Calls Tryz.prog 79 #[.pointer (some ⟨tb, 0, none⟩)] w (QEnt tb z b w) := by
  have TT := Lib.hid h
  clear h
  have ONC := Lib.hid ONC
  have ONS := Lib.hid ONS
  go_enter Tryz.func79, Tryz.ntmps79
  go_upto_region 1 with fail
  have R0 : Hid ((w.alloc (.cells #[.int .i64 0, .int .i64 0, .slice none 0 0, .slice none 0 0] 54)).heap[w.heap.size]? = some (.cells #[.int .i64 0, .int .i64 0, .slice none 0 0, .slice none 0 0] 54 (0, 0))) := Lib.hid (heap_alloc_new w _)
  have T0 := Lib.hid (TT.out.kept (World.grownBy_alloc w (.cells #[.int .i64 0, .int .i64 0, .slice none 0 0, .slice none 0 0] 54) none) (fun g e => by cases e))
  have W0 : Hid (w.grownBy (w.alloc (.cells #[.int .i64 0, .int .i64 0, .slice none 0 0, .slice none 0 0] 54)) (some tb)) := Lib.hid (World.grownBy_alloc w _ _)
  have S0 : Hid (w.heap.size ≤ (w.alloc (.cells #[.int .i64 0, .int .i64 0, .slice none 0 0, .slice none 0 0] 54)).heap.size) := Lib.hid (by simp)
  have NR : Hid (w.heap.size ≠ tb) := Lib.hid (TT.out.out_of (Nat.le_refl _))
  clear TT
  generalize w.alloc (.cells #[.int .i64 0, .int .i64 0, .slice none 0 0, .slice none 0 0] 54) = w0 at R0 T0 W0 S0 ⊢
  generalize hrb : w.heap.size = rb at R0 NR S0 ⊢
  have RB := Lib.hid hrb
  clear hrb
  go_wp2_with (first | (have HH := T3; go_at_call 114; refine (qss_any z3 tb b3 w3 ONS.out T3.out).mono ?_; rintro e w4 ⟨p4, n4, c4, l4, z4, b4, rfl, hl, ⟨us4, ho⟩, hk, hT, hg⟩; have K4 := Lib.hid hk; have T4 := Lib.hid hT; have G4 := Lib.hid hg; have O4 := Lib.hid ho; have L4 := Lib.hid hl; clear hk hT hg ho hl; have GG := Lib.hid (grown_trans (grown_trans (grown_trans G1.out G2.out (fun _ e => .inl e)) G3.out (fun _ e => .inl e)) G4.out (fun _ e => .inl e)); have R1 := Lib.hid (box_keptP R0.out GG.out NR.out); have r0 := (obj_cells R1.out).1 0 _ rfl; have r1 := (obj_cells R1.out).1 1 _ rfl; have r2 := (obj_cells R1.out).1 2 _ rfl; have r3 := (obj_cells R1.out).1 3 _ rfl; have rf := (obj_cells R1.out).2.1) | (have HH := T2; go_at_call 76; refine (qcs_any z2 tb b2 w2 ONC.out T2.out).mono ?_; rintro e w3 ⟨p3, n3, c3, l3, z3, b3, rfl, hl, ho, hk, hT, hg⟩; have K3 := Lib.hid hk; have T3 := Lib.hid hT; have G3 := Lib.hid hg; have O3 := Lib.hid ho; have L3 := Lib.hid hl; clear hk hT hg ho hl) | (have HH := T1; go_at_call 75; refine (qnum_any z1 tb b1 w1 T1.out).mono ?_; rintro e w2 ⟨x2, z2, b2, rfl, hn, hk, hT, hg⟩; have K2 := Lib.hid hk; have T2 := Lib.hid hT; have G2 := Lib.hid hg; clear hn hk hT hg) | (go_at_call 75; refine (qnum_any z tb b w0 T0.out).mono ?_; rintro e w1 ⟨x1, z1, b1, rfl, hn, hk, hT, hg⟩; have K1 := Lib.hid hk; have T1 := Lib.hid hT; have G1 := Lib.hid hg; clear hn hk hT hg))
  refine bodyPost_ret (v := .agg #[.int .i64 (x1 : Int), .int .i64 (x2 : Int), .slice p3 n3 c3, .slice p4 n4 c4]) (by rw [results_cell1 rfl]; go_simp) rfl ?_
  have g2 := setAll_one w4 rb 0 [.int .i64 (x1 : Int), .int .i64 (x2 : Int), .slice p3 n3 c3, .slice p4 n4 c4]
  exact ⟨x1, x2, p3, n3, c3, l3, p4, n4, c4, l4, us4, z4, b4, rfl, ⟨L3.out, L4.out⟩, ((compsOwn_kept (compsOwn_kept O3.out G4.out T3.out.obj (by decide)) g2 R1.out (by decide)).mono (by have := W0.out.size; have := G1.out.size; have := G2.out.size; omega)), ((O4.out.kept g2 R1.out (by decide) (by decide)).mono (by have := W0.out.size; have := G1.out.size; have := G2.out.size; have := G3.out.size; omega)), took_entry K1.out K2.out K3.out K4.out, T4.out.kept g2 (fun g e => by cases e; exact NR.out), grown_trans (grown_trans W0.out GG.out (fun _ e => .inl e)) g2 (fun g e => by cases e; exact .inr (by rw [RB.out]; exact Nat.le_refl _))⟩
def QTre (tb : Nat) (z : ByteArray) (b : Bool) (w : World) (en : Ending) (w' : World) : Prop := ∃ (ro nx : Int) (np : Option Addr) (nn nc : Nat) (ns : List Nd) (vs : List Nv) (z' : ByteArray) (b' : Bool), en = .returned (.agg #[.int .i64 ro, .int .i64 nx, .slice np nn nc]) ∧ ns.length = nn ∧ OwnT w' w.heap.size (.slice np nn nc) vs ns ∧ Took TrP trF (bytesOf z) b (ro, nx, ns) (bytesOf z') b' ∧ TkP w' tb z' b' ∧ w.grownBy w' (some tb)
set_option maxRecDepth 100000 in
set_option maxHeartbeats 4000000 in
theorem qtre_any (z : ByteArray) (tb : Nat) (b : Bool) (w : World) (ONN : ∀ z b w, TkP w tb z b → Calls Tryz.prog 118 #[.pointer (some ⟨tb, 0, none⟩)] w (QNod tb z b w)) (h : TkP w tb z b) : Calls Tryz.prog 82 #[.pointer (some ⟨tb, 0, none⟩)] w (QTre tb z b w) := by
  have TT := Lib.hid h
  clear h
  have ONN := Lib.hid ONN
  go_enter Tryz.func82, Tryz.ntmps82
  go_upto_region 1 with fail
  have R0 : Hid ((w.alloc (.cells #[.int .i64 0, .int .i64 0, .slice none 0 0] 26)).heap[w.heap.size]? = some (.cells #[.int .i64 0, .int .i64 0, .slice none 0 0] 26 (0, 0))) := Lib.hid (heap_alloc_new w _)
  have T0 := Lib.hid (TT.out.kept (World.grownBy_alloc w (.cells #[.int .i64 0, .int .i64 0, .slice none 0 0] 26) none) (fun g e => by cases e))
  have W0 : Hid (w.grownBy (w.alloc (.cells #[.int .i64 0, .int .i64 0, .slice none 0 0] 26)) (some tb)) := Lib.hid (World.grownBy_alloc w _ _)
  have S0 : Hid (w.heap.size ≤ (w.alloc (.cells #[.int .i64 0, .int .i64 0, .slice none 0 0] 26)).heap.size) := Lib.hid (by simp)
  have NR : Hid (w.heap.size ≠ tb) := Lib.hid (TT.out.out_of (Nat.le_refl _))
  clear TT
  generalize w.alloc (.cells #[.int .i64 0, .int .i64 0, .slice none 0 0] 26) = w0 at R0 T0 W0 S0 ⊢
  generalize hrb : w.heap.size = rb at R0 NR S0 ⊢
  have RB := Lib.hid hrb
  clear hrb
  go_wp2_with (first | (have HH := T2; go_at_call 117; refine (qns_any z2 tb b2 w2 ONN.out T2.out).mono ?_; rintro e w3 ⟨p3, n3, c3, l3, z3, b3, rfl, hl, ⟨us3, ho⟩, hk, hT, hg⟩; have K3 := Lib.hid hk; have T3 := Lib.hid hT; have G3 := Lib.hid hg; have O3 := Lib.hid ho; have L3 := Lib.hid hl; clear hk hT hg ho hl; have GG := Lib.hid (grown_trans (grown_trans G1.out G2.out (fun _ e => .inl e)) G3.out (fun _ e => .inl e)); have R1 := Lib.hid (box_keptP R0.out GG.out NR.out); have r0 := (obj_cells R1.out).1 0 _ rfl; have r1 := (obj_cells R1.out).1 1 _ rfl; have r2 := (obj_cells R1.out).1 2 _ rfl; have rf := (obj_cells R1.out).2.1) | (have HH := T1; go_at_call 75; refine (qnum_any z1 tb b1 w1 T1.out).mono ?_; rintro e w2 ⟨x2, z2, b2, rfl, hn, hk, hT, hg⟩; have K2 := Lib.hid hk; have T2 := Lib.hid hT; have G2 := Lib.hid hg; clear hn hk hT hg) | (go_at_call 75; refine (qnum_any z tb b w0 T0.out).mono ?_; rintro e w1 ⟨x1, z1, b1, rfl, hn, hk, hT, hg⟩; have K1 := Lib.hid hk; have T1 := Lib.hid hT; have G1 := Lib.hid hg; clear hn hk hT hg))
  refine bodyPost_ret (v := .agg #[.int .i64 (x1 : Int), .int .i64 (x2 : Int), .slice p3 n3 c3]) (by rw [results_cell1 rfl]; go_simp) rfl ?_
  have g2 := setAll_one w3 rb 0 [.int .i64 (x1 : Int), .int .i64 (x2 : Int), .slice p3 n3 c3]
  exact ⟨x1, x2, p3, n3, c3, l3, us3, z3, b3, rfl, L3.out, ((O3.out.kept g2 R1.out (by decide) (by decide)).mono (by have := W0.out.size; have := G1.out.size; have := G2.out.size; omega)), took_tree K1.out K2.out K3.out, T3.out.kept g2 (fun g e => by cases e; exact NR.out), grown_trans (grown_trans W0.out GG.out (fun _ e => .inl e)) g2 (fun g e => by cases e; exact .inr (by rw [RB.out]; exact Nat.le_refl _))⟩
def QEs (tb : Nat) (z : ByteArray) (b : Bool) (w : World) (en : Ending) (w' : World) : Prop := ∃ (kp : Option Addr) (kn kc : Nat) (l : List En) (z' : ByteArray) (b' : Bool), en = .returned (.slice kp kn kc) ∧ l.length = kn ∧ (∃ vs, OwnX w' w.heap.size (.slice kp kn kc) vs l) ∧ Took (LiP QEn) (listC entC) (bytesOf z) b l (bytesOf z') b' ∧ TkP w' tb z' b' ∧ w.grownBy w' (some tb)
set_option maxRecDepth 100000 in
set_option maxHeartbeats 4000000 in
theorem qes_any (z : ByteArray) (tb : Nat) (b : Bool) (w : World) (ONE : ∀ z b w, TkP w tb z b → Calls Tryz.prog 79 #[.pointer (some ⟨tb, 0, none⟩)] w (QEnt tb z b w)) (h : TkP w tb z b) : Calls Tryz.prog 78 #[.pointer (some ⟨tb, 0, none⟩), .func (.func 79) #[.pointer (some ⟨tb, 0, none⟩)] #[]] w (QEs tb z b w) := by
  obtain ⟨i0, hi, hz0, hz1, hz2⟩ := info_parts info54
  have D := Lib.hid (qnum_any z tb b w h)
  clear h
  go_enter Tryz.func78, Tryz.ntmps78
  go_upto_region 3 with (go_at_call 75; refine D.out.mono ?_; rintro e w1 ⟨N, z1, b1, rfl, hN, hk, hT, hg⟩; have T := Lib.hid hT; have G := Lib.hid hg; have TI0 := Lib.hid (taki_start (P := QEn) (f := entC) hk); clear hT hg hk)
  clear D
  go_loopw [5, 6] (fun v5 v6 wr => ∃ (r : Nat) (z2 : ByteArray) (b2 : Bool) (acc : List En) (vs : List Ev) , v6 = .int .i64 r ∧ Hid (acc.length + r = N) ∧ Hid (TakI QEn entC (bytesOf z) b N acc (bytesOf z2) b2) ∧ Hid (TkP wr tb z2 b2) ∧ Hid (OwnX wr w.heap.size v5 vs acc) ∧ Hid (w.grownBy wr (some tb))) (fun _ v6 _ => (intOf v6).toNat)
  case atStart => exact ⟨N, z1, b1, [], [], rfl, Lib.hid (by simp), TI0, T, Lib.hid (OwnX.nil _ _), G⟩
  case round =>
    clear TI0 T G
    obtain ⟨r, z2, b2, acc, vs, rfl, HR, TI, T2, O, G2⟩ := hrel
    have c1 : wr.cell? ⟨tb, 1, none⟩ = some (.bool b2) := (obj_cells T2.out.obj).1 1 _ rfl
    obtain ⟨p0, cap, rfl⟩ := O.out.own.row.form
    obtain ⟨M, hM⟩ : ∃ M, vs.length = M := ⟨_, rfl⟩
    have LE : Hid (acc.length = M) := Lib.hid (by rw [← hM]; exact O.out.own.len.symm)
    have HM := Lib.hid hM
    rw [hM] at O ⊢
    have hMr : M + r = N := by have := HR.out; have := LE.out; omega
    have FIN : Hid (b2 = true ∨ r = 0 → Took (LiP QEn) (listC entC) (bytesOf z) b acc (bytesOf z2) b2) := Lib.hid (fun h => TI.out.done hN (h.imp id (fun h => by have := HR.out; omega)))
    clear hM
    by_cases q1 : r = 0
    · have q0 : ¬ 0 < r := by omega
      have Q1 := Lib.hid q1
      clear q1
      go_wp2_with fail
      go_ret
      exact ⟨p0, M, cap, acc, z2, b2, rfl, LE.out, ⟨vs, O.out⟩, FIN.out (.inr Q1.out), T2.out, G2.out⟩
    · have q0 : 0 < r := by omega
      cases b2 with
      | true =>
        go_wp2_with fail
        go_ret
        exact ⟨p0, M, cap, acc, z2, true, rfl, LE.out, ⟨vs, O.out⟩, FIN.out (.inl (by simp)), T2.out, G2.out⟩
      | false =>
        clear FIN
        have ON := Lib.hid (ONE z2 false wr T2.out)
        have KEEP : Hid (∀ W, wr.grownBy W (some tb) → W.ownsRow w.heap.size 54 4 (.slice p0 M cap) M (lyE.all vs)) := Lib.hid (fun W hW => by
          have := Ly.Own.kept O.out.own.row hW (fun g hg e => by
            cases e
            obtain ⟨cur, hcur⟩ := Ly.Own.obj O.out.own.row hg
            exact type_ne hcur T2.out.obj (by decide) rfl)
          unfold Ly.Own at this
          rw [HM.out] at this
          exact this)
        have NE : Hid (∀ g, (Value.slice p0 M cap).ownBlock = some g → g ≠ tb) := Lib.hid (fun g hg e => by
          subst e
          obtain ⟨cur, hcur⟩ := Ly.Own.obj O.out.own.row hg
          exact type_ne hcur T2.out.obj (by decide) rfl)
        have v1 : IntKind.i64.wrap ((r : Int) - 1) = ((r - 1 : Nat) : Int) := by rw [IntWalk.i64_in _ (by omega)]; omega
        go_wp2_with (first | (go_at_call 79; refine ON.out.mono ?_; rintro e w2 ⟨cl, sq, ep, en, ec, ed, dp, dn, dc, dl, us, z3, b3, rfl, hl, ho, hd, hk, hT, hg⟩; have T3 := Lib.hid hT; have K3 := Lib.hid hk; have G3 := Lib.hid hg; have HL := Lib.hid hl; have HO := Lib.hid ho; have HD := Lib.hid hd; clear hl ho hd; clear hT hk hg) | (at_builtin; refine wpList_append_all _ rfl _ _ 23 rfl w.heap.size 54 i0 _ 4 64 Tryz.underlying23 hi hz0 hz1 hz2 rfl (by decide) (.slice p0 M cap) M (lyE.all vs) rfl (World.ownsRow.alloc (KEEP.out _ G3.out) _) (some ⟨w2.heap.size, 0, none⟩) 1 1 (Ev.cells ⟨cl, sq, ep, en, ec, dp, dn, dc⟩) rfl rfl (fun e => by cases e) (fun ad hp => by cases hp; exact four_new rfl ⟨cl, sq, ep, en, ec, dp, dn, dc⟩) (lyE.one ⟨cl, sq, ep, en, ec, dp, dn, dc⟩) (by unfold maxLen; omega) (by omega) (Nat.le_trans (Nat.le_trans G2.out.size G3.out.size) (by simp)) (M + 1) rfl ?_; intro p5 cap5 w5 hown5 hgrow5 hblk5; have H5 := Lib.hid hown5; have G5 := Lib.hid hgrow5; have HB5 := Lib.hid hblk5; clear hown5 hgrow5 hblk5))
        go_roundw
        case rel =>
          refine ⟨r - 1, z3, b3, acc ++ [⟨cl, sq, ed, dl⟩], vs ++ [⟨cl, sq, ep, en, ec, dp, dn, dc⟩], by go_num, Lib.hid (by rw [List.length_append, List.length_singleton]; have := LE.out; omega), Lib.hid (TI.out.step en_ur hN (by have := LE.out; omega) K3.out), Lib.hid ?_, Lib.hid ?_, Lib.hid ?_⟩
          · exact (T3.out.kept (World.grownBy_alloc w2 _ none) (fun g e => by cases e)).kept G5.out NE.out
          · refine O.out.pushT T2.out.obj G2.out.size G3.out rfl rfl HO.out HD.out HB5.out G5.out ?_
            unfold Ly.Own
            rw [List.length_append, HM.out, List.length_singleton, all_app, all_one]
            exact H5.out
          · exact grown_trans (grown_trans G2.out G3.out (fun g e => .inl e)) (grown_trans (World.grownBy_alloc w2 _ (Value.slice p0 M cap).ownBlock) G5.out (fun g e => .inl e)) (fun g e => .inr (Ly.Own.lt O.out.own.row e).1)
        case measure => simp [intOf]; omega

end Go.Proofs.YtjmfjlffcopnnaaGreatDoor
