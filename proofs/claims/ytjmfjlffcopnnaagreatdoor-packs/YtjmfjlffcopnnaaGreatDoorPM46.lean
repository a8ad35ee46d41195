/-
  Ql, Qi, Qs, in one text. Conditions: as each theorem's premises say.
-/
import Derived.Test.YtjmfjlffcopnnaaGreatDoorPM45
import Derived.Test.YtjmfjlffcopnnaaGreatDoorPM00
import Derived.Test.YtjmfjlffcopnnaaGreatDoorPM38
import Derived.Test.YtjmfjlffcopnnaaGreatDoorPM15
namespace Go.Proofs.YtjmfjlffcopnnaaGreatDoor
open Go.RowKit

def QNum (tb : Nat) (z : ByteArray) (b : Bool) (w : World) (en : Ending) (w' : World) : Prop := ∃ (n : Nat) (z' : ByteArray) (b' : Bool), en = .returned (.int .i64 n) ∧ n ≤ 16777216 ∧ Took NuP numC (bytesOf z) b n (bytesOf z') b' ∧ TkP w' tb z' b' ∧ w.grownBy w' (some tb)
set_option maxRecDepth 100000 in
theorem qnum_any (z : ByteArray) (tb : Nat) (b : Bool) (w : World) (h : TkP w tb z b) : Calls Tryz.prog 75 #[.pointer (some ⟨tb, 0, none⟩)] w (QNum tb z b w) := by
  have D : Hid (Calls Tryz.prog 113 #[.pointer (some ⟨tb, 0, none⟩), .int .u8 44] w (DigT 44 tb z b w)) := Lib.hid (qdigits_any 44 (by decide) z tb b w h)
  clear h
  go_enter Tryz.func75, Tryz.ntmps75
  go_wp2_with (go_at_call 113; refine D.out.mono ?_; rintro e w2 ⟨n, z', b', rfl, hn, hk, hT, hg⟩; have T2 := Lib.hid hT; have G2 := Lib.hid hg; have K2 := Lib.hid hk; clear hT hg hk)
  go_ret
  exact ⟨n, z', b', rfl, hn, K2.out, T2.out, G2.out⟩

def QTru (tb : Nat) (z : ByteArray) (b : Bool) (w : World) (en : Ending) (w' : World) : Prop := ∃ (x : Bool) (z' : ByteArray) (b' : Bool), en = .returned (.bool x) ∧ Took (fun _ => True) truC (bytesOf z) b x (bytesOf z') b' ∧ TkP w' tb z' b' ∧ w.grownBy w' (some tb)
set_option maxRecDepth 100000 in
theorem qtru_any (z : ByteArray) (tb : Nat) (b : Bool) (w : World) (h : TkP w tb z b) : Calls Tryz.prog 80 #[.pointer (some ⟨tb, 0, none⟩)] w (QTru tb z b w) := by
  have D := Lib.hid (qnum_any z tb b w h)
  clear h
  go_enter Tryz.func80, Tryz.ntmps80
  go_upto_region 2 with (go_at_call 75; refine D.out.mono ?_; rintro e w2 ⟨n, z', b', rfl, hn, hk, hT, hg⟩; have T2 := Lib.hid hT; have G2 := Lib.hid hg; have K2 := Lib.hid hk; clear hT hg hk)
  clear D
  by_cases q : 1 < n
  · have k : decide ((1 : Int) < (n : Int)) = true := decide_eq_true (by omega)
    have k1 : ((n : Int) == 1) = false := by rw [beq_eq_false_iff_ne]; omega
    go_wp2_with (go_at_call 112; refine (qrefuse_any z' tb b' w2 T2.out).mono ?_; rintro e w3 ⟨rfl, hT, hg⟩; have T3 := Lib.hid hT; have G3 := Lib.hid (grown_trans G2.out hg (fun _ h => .inl h)); clear hT hg)
    go_ret
    exact ⟨_, ⟨#[]⟩, true, rfl, took_tru_no K2.out q _, T3.out, G3.out⟩
  · have k : decide ((1 : Int) < (n : Int)) = false := decide_eq_false (by omega)
    by_cases q1 : n = 1
    · have k1 : ((n : Int) == 1) = true := by rw [beq_iff_eq]; omega
      have Q := Lib.hid q1
      clear q1
      go_wp2_with fail
      go_ret
      exact ⟨_, z', b', rfl, took_tru_yes K2.out (by omega) (by simp [Q.out]), T2.out, G2.out⟩
    · have k1 : ((n : Int) == 1) = false := by rw [beq_eq_false_iff_ne]; omega
      go_wp2_with fail
      go_ret
      exact ⟨_, z', b', rfl, took_tru_yes K2.out (by omega) (by simp [q1]), T2.out, G2.out⟩

theorem ix_cases : ∀ (l : List UInt8) (c : UInt8), (Lib.indexByte l c = -1 ∧ c ∉ l) ∨ ∃ k : Nat, Lib.indexByte l c = (k : Int) ∧ l[k]? = some c
  | [], c => .inl ⟨rfl, by simp⟩
  | a :: l, c => by
    unfold Lib.indexByte
    by_cases h : a = c
    · right
      exact ⟨0, by simp [h], by simp [h]⟩
    · rcases ix_cases l c with ⟨h1, h2⟩ | ⟨k, h1, h2⟩
      · left
        exact ⟨by simp [h, h1], by simp [h2]; exact fun e => h e.symm⟩
      · right
        refine ⟨k + 1, ?_, by simpa using h2⟩
        have : ¬ ((k : Int) = -1) := by omega
        simp [h, h1, this]

def QLet (L : ByteArray) (tb : Nat) (z : ByteArray) (b : Bool) (w : World) (en : Ending) (w' : World) : Prop := ∃ (k : Nat) (z' : ByteArray) (b' : Bool), en = .returned (.int .i64 k) ∧ k < L.size ∧ Took (LeP (bytesOf L)) (letC (bytesOf L)) (bytesOf z) b k (bytesOf z') b' ∧ TkP w' tb z' b' ∧ w.grownBy w' (some tb)
set_option maxRecDepth 100000 in
set_option maxHeartbeats 1000000 in
theorem qlet_any (L : ByteArray) (hL : 0 < L.size) (z : ByteArray) (tb : Nat) (b : Bool) (w : World) (h : TkP w tb z b) : Calls Tryz.prog 74 #[.pointer (some ⟨tb, 0, none⟩), .string L] w (QLet L tb z b w) := by
  have T := Lib.hid h
  have hz := h.le
  clear h
  have c0 : w.cell? ⟨tb, 0, none⟩ = some (.string z) := (obj_cells T.out.obj).1 0 _ rfl
  by_cases q0 : z.size = 0
  · have hze : z = ⟨#[]⟩ := by
      apply ByteArray.ext
      exact Array.eq_empty_of_size_eq_zero q0
    have ZE := Lib.hid hze
    rw [hze] at c0
    clear hze q0
    go_enter Tryz.func74, Tryz.ntmps74
    go_wp2_with (go_at_call 112; refine (qrefuse_any z tb b w T.out).mono ?_; rintro e w2 ⟨rfl, hT, hg⟩; have T2 := Lib.hid hT; have G2 := Lib.hid hg; clear hT hg)
    go_ret
    exact ⟨0, ⟨#[]⟩, true, rfl, hL, took_let_no (.inl (by rw [ZE.out]; rfl)), T2.out, G2.out⟩
  · have q1 : 0 < z.size := by omega
    have q2 : (0 : Int) < (z.size : Int) := by omega
    obtain ⟨c, hc⟩ : ∃ c, z[0] = c := ⟨_, rfl⟩
    have HZ : Hid (bytesOf z = c :: (bytesOf z).drop 1) := Lib.hid (by
      have h1 := List.drop_eq_getElem_cons (l := bytesOf z) (i := 0) (by rw [bytes_size]; omega)
      have h2 := (List.getElem?_eq_some_iff.1 (bytes_at q1)).2
      rw [h2, hc] at h1
      exact h1)
    have c8 := c.toNat_lt
    have hcc : ((c.toNat : Int)).toNat.toUInt8 = c := by simp
    have IX := Lib.hid (Any.strings_IndexByte Tryz.laysIndexByte L (c.toNat : Int) w)
    have IC := ix_cases L.data.toList c
    rw [hcc] at IX
    have ne : z.toList.isEmpty = false := by
      rw [K.isEmpty_size]
      exact decide_eq_false (by omega)
    generalize hix : Lib.indexByte L.data.toList c = ix at IX IC
    clear hix
    rcases IC with ⟨rfl, hno⟩ | ⟨k, rfl, hk⟩
    · have HN := Lib.hid hno
      clear hno
      go_enter Tryz.func74, Tryz.ntmps74
      go_wp2_with (first | (go_at_call 111; refine IX.out.mono ?_; rintro e w1 ⟨rfl, rfl⟩) | (go_at_call 112; refine (qrefuse_any z tb b _ T.out).mono ?_; rintro e w2 ⟨rfl, hT, hg⟩; have T2 := Lib.hid hT; have G2 := Lib.hid hg; clear hT hg))
      go_ret
      exact ⟨0, ⟨#[]⟩, true, rfl, hL, took_let_no (.inr ⟨c, _, HZ.out, HN.out⟩), T2.out, G2.out⟩
    · have HK := Lib.hid hk
      have hkL : k < L.size := by
        have := (List.getElem?_eq_some_iff.1 hk).1
        simpa using this
      clear hk
      have kneg : decide ((k : Int) < 0) = false := decide_eq_false (by omega)
      have f0 := (obj_cells T.out.obj).2.1 0
      have q3 : (1 : Int) ≤ (z.size : Int) := by omega
      have NB : Hid (b = false) := Lib.hid (by
        cases b with
        | false => rfl
        | true => rw [T.out.emp rfl] at q1; exact absurd q1 (Nat.not_lt_zero _))
      go_enter Tryz.func74, Tryz.ntmps74
      go_wp2_with (first | (go_at_call 111; refine IX.out.mono ?_; rintro e w2 ⟨rfl, rfl⟩))
      go_ret
      refine ⟨k, z.extract 1 z.size, b, rfl, hkL, ?_, ⟨?_, ?_, ?_⟩, grown_set (grown_refl _ _) _⟩
      · rw [bytes_ext]
        exact took_let_yes (fun e => by rw [NB.out] at e; cases e) HK.out HZ.out
      · rw [heap_setCell_at T.out.obj]
        rfl
      · rw [ByteArray.size_extract]
        omega
      · intro e
        rw [NB.out] at e
        cases e

set_option maxRecDepth 100000 in
theorem qclone_any (x : ByteArray) (w : World) (hx : x.size ≤ 281474976710656) : Calls Tryz.prog 116 #[.string x] w fun e w' => e = .returned (.string x) ∧ Below w.heap.size w w' := by
  have CL : Hid (Calls Tryz.prog 145 #[.string x] w fun e w' => e = .returned (.string x) ∧ Below w.heap.size w w') := Lib.hid (Any.stringslite_Clone Tryz.laysClone x w hx)
  go_enter Tryz.func116, Tryz.ntmps116
  go_wp2_with (go_at_call 145; refine CL.out.mono ?_; rintro e w3 ⟨rfl, hb⟩; have B3 := Lib.hid hb; clear hb)
  go_ret
  exact ⟨rfl, B3.out⟩

def QStr (tb : Nat) (z : ByteArray) (b : Bool) (w : World) (en : Ending) (w' : World) : Prop := ∃ (x z' : ByteArray) (b' : Bool), en = .returned (.string x) ∧ Took QStrP strF (bytesOf z) b x (bytesOf z') b' ∧ TkP w' tb z' b' ∧ w.grownBy w' (some tb)
set_option maxRecDepth 100000 in
set_option maxHeartbeats 1000000 in
theorem qstr_any (z : ByteArray) (tb : Nat) (b : Bool) (w : World) (h : TkP w tb z b) : Calls Tryz.prog 81 #[.pointer (some ⟨tb, 0, none⟩)] w (QStr tb z b w) := by
  have D : Hid (Calls Tryz.prog 113 #[.pointer (some ⟨tb, 0, none⟩), .int .u8 58] w (DigT 58 tb z b w)) := Lib.hid (qdigits_any 58 (by decide) z tb b w h)
  clear h
  go_enter Tryz.func81, Tryz.ntmps81
  go_upto_region 2 with (go_at_call 113; refine D.out.mono ?_; rintro e w2 ⟨n, z', b', rfl, hn, hk, hT, hg⟩; have T2 := Lib.hid hT; have G2 := Lib.hid hg; have K2 := Lib.hid hk; clear hT hg hk)
  clear D
  have c0 : w2.cell? ⟨tb, 0, none⟩ = some (.string z') := (obj_cells T2.out.obj).1 0 _ rfl
  have hz := T2.out.le
  by_cases q : z'.size < n
  · have k : decide ((z'.size : Int) < (n : Int)) = true := decide_eq_true (by omega)
    go_wp2_with (go_at_call 112; refine (qrefuse_any z' tb b' w2 T2.out).mono ?_; rintro e w3 ⟨rfl, hT, hg⟩; have T3 := Lib.hid hT; have G3 := Lib.hid (grown_trans G2.out hg (fun _ h => .inl h)); clear hT hg)
    go_ret
    exact ⟨_, ⟨#[]⟩, true, rfl, took_str_no K2.out (by rw [bytes_size]; exact q) _, T3.out, G3.out⟩
  · have k : decide ((z'.size : Int) < (n : Int)) = false := decide_eq_false (by omega)
    have k0 : (0 : Int) ≤ (n : Int) := by omega
    have k1 : (n : Int) ≤ (z'.size : Int) := by omega
    have hnz : n ≤ z'.size := by omega
    obtain ⟨x, hx⟩ : ∃ x, z'.extract 0 n = x := ⟨_, rfl⟩
    have HX : Hid (bytesOf x = (bytesOf z').take n) := Lib.hid (by
      rw [← hx]
      unfold bytesOf
      rw [ByteArray.data_extract, Array.toList_extract, List.extract_eq_take_drop]
      simp)
    have hxs : x.size ≤ 281474976710656 := by
      rw [← hx, ByteArray.size_extract]
      omega
    have CL : Hid (∀ W : World, Calls Tryz.prog 116 #[.string x] W fun e w' => e = .returned (.string x) ∧ Below W.heap.size W w') := Lib.hid (fun W => qclone_any x W hxs)
    clear hxs
    go_upto_region 6 with (go_at_call 116; refine (CL.out _).mono ?_; rintro e w3 ⟨rfl, hb⟩; have B3 := Lib.hid hb; clear hb)
    have T3 : Hid (TkP w3 tb z' b') := Lib.hid (T2.out.kept (grown_of_below B3.out none) (fun g e => by cases e))
    have G3 : Hid (w.grownBy w3 (some tb)) := Lib.hid (grown_trans G2.out (grown_of_below B3.out (some tb)) (fun _ h => .inl h))
    clear c0 T2 G2 B3
    have c0 : w3.cell? ⟨tb, 0, none⟩ = some (.string z') := (obj_cells T3.out.obj).1 0 _ rfl
    have f0 := (obj_cells T3.out.obj).2.1 0
    go_wp2_with fail
    go_ret
    refine ⟨x, z'.extract n z'.size, b', rfl, took_str_yes K2.out HX.out (by rw [bytes_size]; exact hnz) (bytes_ext _ _), ⟨?_, ?_, ?_⟩, grown_set G3.out _⟩
    · rw [heap_setCell_at T3.out.obj]
      rfl
    · rw [ByteArray.size_extract]
      omega
    · intro e
      have := T3.out.emp e
      subst this
      apply ByteArray.ext
      apply Array.eq_empty_of_size_eq_zero
      rw [ByteArray.data_extract, Array.size_extract]
      simp

end Go.Proofs.YtjmfjlffcopnnaaGreatDoor

namespace Go.Proofs.YtjmfjlffcopnnaaGreatDoor
open Go.RowKit

def QIs (tb : Nat) (z : ByteArray) (b : Bool) (w : World) (en : Ending) (w' : World) : Prop := ∃ (kp : Option Addr) (kn kc : Nat) (l : List Int) (z' : ByteArray) (b' : Bool), en = .returned (.slice kp kn kc) ∧ l.length = kn ∧ (lyI.Own w' w.heap.size (.slice kp kn kc) l) ∧ Took (LiP NuP) (listC numC) (bytesOf z) b l (bytesOf z') b' ∧ TkP w' tb z' b' ∧ w.grownBy w' (some tb)
set_option maxRecDepth 100000 in
set_option maxHeartbeats 4000000 in
theorem qis_any (z : ByteArray) (tb : Nat) (b : Bool) (w : World) (h : TkP w tb z b) : Calls Tryz.prog 144 #[.pointer (some ⟨tb, 0, none⟩), .func (.func 75) #[.pointer (some ⟨tb, 0, none⟩)] #[]] w (QIs tb z b w) := by
  obtain ⟨i0, hi, hz0, hz1, hz2⟩ := info_parts info3
  have D := Lib.hid (qnum_any z tb b w h)
  clear h
  go_enter Tryz.func144, Tryz.ntmps144
  go_upto_region 3 with (go_at_call 75; refine D.out.mono ?_; rintro e w1 ⟨N, z1, b1, rfl, hN, hk, hT, hg⟩; have T := Lib.hid hT; have G := Lib.hid hg; have TI0 := Lib.hid (taki_start (P := NuP) (f := numC) hk); clear hT hg hk)
  clear D
  go_loopw [5, 6] (fun v5 v6 wr => ∃ (r : Nat) (z2 : ByteArray) (b2 : Bool) (acc : List Int) , v6 = .int .i64 r ∧ Hid (acc.length + r = N) ∧ Hid (TakI NuP numC (bytesOf z) b N acc (bytesOf z2) b2) ∧ Hid (TkP wr tb z2 b2) ∧ Hid (lyI.Own wr w.heap.size v5 acc) ∧ Hid (w.grownBy wr (some tb))) (fun _ v6 _ => (intOf v6).toNat)
  case atStart => exact ⟨N, z1, b1, [], rfl, Lib.hid (by simp), TI0, T, Lib.hid (Ly.Own.nil _ _), G⟩
  case round =>
    clear TI0 T G
    obtain ⟨r, z2, b2, acc, rfl, HR, TI, T2, O, G2⟩ := hrel
    have c1 : wr.cell? ⟨tb, 1, none⟩ = some (.bool b2) := (obj_cells T2.out.obj).1 1 _ rfl
    obtain ⟨p0, cap, rfl⟩ := O.out.form
    obtain ⟨M, hM⟩ : ∃ M, acc.length = M := ⟨_, rfl⟩
    have LE : Hid (acc.length = M) := Lib.hid hM
    have HM := Lib.hid hM
    rw [hM] at O ⊢
    have hMr : M + r = N := by have := HR.out; have := LE.out; omega
    have FIN : Hid (b2 = true ∨ r = 0 → Took (LiP NuP) (listC numC) (bytesOf z) b acc (bytesOf z2) b2) := Lib.hid (fun h => TI.out.done hN (h.imp id (fun h => by have := HR.out; omega)))
    clear hM
    by_cases q1 : r = 0
    · have q0 : ¬ 0 < r := by omega
      have Q1 := Lib.hid q1
      clear q1
      go_wp2_with fail
      go_ret
      exact ⟨p0, M, cap, acc, z2, b2, rfl, LE.out, O.out, FIN.out (.inr Q1.out), T2.out, G2.out⟩
    · have q0 : 0 < r := by omega
      cases b2 with
      | true =>
        go_wp2_with fail
        go_ret
        exact ⟨p0, M, cap, acc, z2, true, rfl, LE.out, O.out, FIN.out (.inl (by simp)), T2.out, G2.out⟩
      | false =>
        clear FIN
        have ON := Lib.hid (qnum_any z2 tb false wr T2.out)
        have KEEP : Hid (∀ W, wr.grownBy W (some tb) → W.ownsRow w.heap.size 3 1 (.slice p0 M cap) M (lyI.all acc)) := Lib.hid (fun W hW => by
          have := Ly.Own.kept O.out hW (fun g hg e => by
            cases e
            obtain ⟨cur, hcur⟩ := Ly.Own.obj O.out hg
            exact type_ne hcur T2.out.obj (by decide) rfl)
          unfold Ly.Own at this
          rw [HM.out] at this
          exact this)
        have NE : Hid (∀ g, (Value.slice p0 M cap).ownBlock = some g → g ≠ tb) := Lib.hid (fun g hg e => by
          subst e
          obtain ⟨cur, hcur⟩ := Ly.Own.obj O.out hg
          exact type_ne hcur T2.out.obj (by decide) rfl)
        have v1 : IntKind.i64.wrap ((r : Int) - 1) = ((r - 1 : Nat) : Int) := by rw [IntWalk.i64_in _ (by omega)]; omega
        go_wp2_with (first | (go_at_call 75; refine ON.out.mono ?_; rintro e w2 ⟨x, z3, b3, rfl, hn, hk, hT, hg⟩; have T3 := Lib.hid hT; have K3 := Lib.hid hk; have G3 := Lib.hid hg; clear hn; clear hT hk hg) | (at_builtin; refine wpList_append_all _ rfl _ _ 49 rfl w.heap.size 3 i0 _ 1 8 Tryz.underlying49 hi hz0 hz1 hz2 rfl (by decide) (.slice p0 M cap) M (lyI.all acc) rfl (World.ownsRow.alloc (KEEP.out _ G3.out) _) (some ⟨w2.heap.size, 0, none⟩) 1 1 [.int .i64 (x : Int)] rfl rfl (fun e => by cases e) (fun ad hp => by cases hp; exact World.news_of_block (heap_alloc_new w2 _)) (lyI.one (x : Int)) (by unfold maxLen; omega) (by omega) (Nat.le_trans (Nat.le_trans G2.out.size G3.out.size) (by simp)) (M + 1) rfl ?_; intro p5 cap5 w5 hown5 hgrow5 hblk5; have H5 := Lib.hid hown5; have G5 := Lib.hid hgrow5; clear hown5 hgrow5 hblk5))
        go_roundw
        case rel =>
          refine ⟨r - 1, z3, b3, acc ++ [(x : Int)], by go_num, Lib.hid (by rw [List.length_append, List.length_singleton]; have := LE.out; omega), Lib.hid (TI.out.step nu_ur hN (by have := LE.out; omega) K3.out), Lib.hid ?_, Lib.hid ?_, Lib.hid ?_⟩
          · exact (T3.out.kept (World.grownBy_alloc w2 _ none) (fun g e => by cases e)).kept G5.out NE.out
          · unfold Ly.Own
            rw [List.length_append, HM.out, List.length_singleton, all_app, all_one]
            exact H5.out
          · exact grown_trans (grown_trans G2.out G3.out (fun g e => .inl e)) (grown_trans (World.grownBy_alloc w2 _ (Value.slice p0 M cap).ownBlock) G5.out (fun g e => .inl e)) (fun g e => .inr (Ly.Own.lt O.out e).1)
        case measure => simp [intOf]; omega

end Go.Proofs.YtjmfjlffcopnnaaGreatDoor

namespace Go.Proofs.YtjmfjlffcopnnaaGreatDoor
open Go.RowKit

theorem box_keptP {w w' : World} {g k : Nat} {o : Obj} (h : w.heap[k]? = some o) (hg : w.grownBy w' (some g)) (hne : k ≠ g) : w'.heap[k]? = some o :=
  (hg.block k (Array.getElem?_eq_some_iff.1 h).1 (fun e => hne (Option.some.inj e))).trans h
theorem TkP.out_of {w : World} {tb g : Nat} {z : ByteArray} {b : Bool} (h : TkP w tb z b) (hg : w.heap.size ≤ g) : g ≠ tb := by
  have := (Array.getElem?_eq_some_iff.1 h.obj).1
  omega
theorem intsOwn_kept {w w' : World} {base g : Nat} {v : Value} {l : List Int} {c : Array Value} {e : TypeId} (h : lyI.Own w base v l) (hg : w.grownBy w' (some g)) (hc : w.heap[g]? = some (.cells c e (0, 0))) (h1 : e ≠ 3) : lyI.Own w' base v l :=
  h.kept hg (fun k hk => by
      obtain ⟨cur, hcur⟩ := h.obj hk
      intro e0; cases e0
      exact type_ne hc hcur h1 rfl)
def QStp (tb : Nat) (z : ByteArray) (b : Bool) (w : World) (en : Ending) (w' : World) : Prop := ∃ (x1 x2 x3 x4 x5 : Int) (kp : Option Addr) (kn kc : Nat) (ks : List Int) (z' : ByteArray) (b' : Bool), en = .returned (.agg #[.int .i64 x1, .int .i64 x2, .int .i64 x3, .int .i64 x4, .int .i64 x5, .slice kp kn kc]) ∧ ks.length = kn ∧ lyI.Own w' w.heap.size (.slice kp kn kc) ks ∧ Took QSt stepC (bytesOf z) b ⟨x1, x2, x3, x4, x5, ks⟩ (bytesOf z') b' ∧ TkP w' tb z' b' ∧ w.grownBy w' (some tb)
set_option maxRecDepth 100000 in
set_option maxHeartbeats 4000000 in
theorem qstp_any (z : ByteArray) (tb : Nat) (b : Bool) (w : World) (h : TkP w tb z b) : Calls Tryz.prog 115 #[.pointer (some ⟨tb, 0, none⟩)] w (QStp tb z b w) := by
  have TT := Lib.hid h
  clear h
  go_enter Tryz.func115, Tryz.ntmps115
  go_upto_region 1 with fail
  have R0 : Hid ((w.alloc (.cells #[.int .i64 0, .int .i64 0, .int .i64 0, .int .i64 0, .int .i64 0, .slice none 0 0] 51)).heap[w.heap.size]? = some (.cells #[.int .i64 0, .int .i64 0, .int .i64 0, .int .i64 0, .int .i64 0, .slice none 0 0] 51 (0, 0))) := Lib.hid (heap_alloc_new w _)
  have T0 := Lib.hid (TT.out.kept (World.grownBy_alloc w (.cells #[.int .i64 0, .int .i64 0, .int .i64 0, .int .i64 0, .int .i64 0, .slice none 0 0] 51) none) (fun g e => by cases e))
  have W0 : Hid (w.grownBy (w.alloc (.cells #[.int .i64 0, .int .i64 0, .int .i64 0, .int .i64 0, .int .i64 0, .slice none 0 0] 51)) (some tb)) := Lib.hid (World.grownBy_alloc w _ _)
  have S0 : Hid (w.heap.size ≤ (w.alloc (.cells #[.int .i64 0, .int .i64 0, .int .i64 0, .int .i64 0, .int .i64 0, .slice none 0 0] 51)).heap.size) := Lib.hid (by simp)
  have NR : Hid (w.heap.size ≠ tb) := Lib.hid (TT.out.out_of (Nat.le_refl _))
  clear TT
  generalize w.alloc (.cells #[.int .i64 0, .int .i64 0, .int .i64 0, .int .i64 0, .int .i64 0, .slice none 0 0] 51) = w0 at R0 T0 W0 S0 ⊢
  generalize hrb : w.heap.size = rb at R0 NR S0 ⊢
  have RB := Lib.hid hrb
  clear hrb
  go_wp2_with (first | (have HH := T5; go_at_call 144; refine (qis_any z5 tb b5 w5 T5.out).mono ?_; rintro e w6 ⟨p6, n6, c6, l6, z6, b6, rfl, hl, ho, hk, hT, hg⟩; have K6 := Lib.hid hk; have T6 := Lib.hid hT; have G6 := Lib.hid hg; have O6 := Lib.hid ho; have L6 := Lib.hid hl; clear hk hT hg ho hl; have GG := Lib.hid (grown_trans (grown_trans (grown_trans (grown_trans (grown_trans G1.out G2.out (fun _ e => .inl e)) G3.out (fun _ e => .inl e)) G4.out (fun _ e => .inl e)) G5.out (fun _ e => .inl e)) G6.out (fun _ e => .inl e)); have R1 := Lib.hid (box_keptP R0.out GG.out NR.out); have r0 := (obj_cells R1.out).1 0 _ rfl; have r1 := (obj_cells R1.out).1 1 _ rfl; have r2 := (obj_cells R1.out).1 2 _ rfl; have r3 := (obj_cells R1.out).1 3 _ rfl; have r4 := (obj_cells R1.out).1 4 _ rfl; have r5 := (obj_cells R1.out).1 5 _ rfl; have rf := (obj_cells R1.out).2.1) | (have HH := T4; go_at_call 75; refine (qnum_any z4 tb b4 w4 T4.out).mono ?_; rintro e w5 ⟨x5, z5, b5, rfl, hn, hk, hT, hg⟩; have K5 := Lib.hid hk; have T5 := Lib.hid hT; have G5 := Lib.hid hg; clear hn hk hT hg) | (have HH := T3; go_at_call 75; refine (qnum_any z3 tb b3 w3 T3.out).mono ?_; rintro e w4 ⟨x4, z4, b4, rfl, hn, hk, hT, hg⟩; have K4 := Lib.hid hk; have T4 := Lib.hid hT; have G4 := Lib.hid hg; clear hn hk hT hg) | (have HH := T2; go_at_call 75; refine (qnum_any z2 tb b2 w2 T2.out).mono ?_; rintro e w3 ⟨x3, z3, b3, rfl, hn, hk, hT, hg⟩; have K3 := Lib.hid hk; have T3 := Lib.hid hT; have G3 := Lib.hid hg; clear hn hk hT hg) | (have HH := T1; go_at_call 75; refine (qnum_any z1 tb b1 w1 T1.out).mono ?_; rintro e w2 ⟨x2, z2, b2, rfl, hn, hk, hT, hg⟩; have K2 := Lib.hid hk; have T2 := Lib.hid hT; have G2 := Lib.hid hg; clear hn hk hT hg) | (go_at_call 75; refine (qnum_any z tb b w0 T0.out).mono ?_; rintro e w1 ⟨x1, z1, b1, rfl, hn, hk, hT, hg⟩; have K1 := Lib.hid hk; have T1 := Lib.hid hT; have G1 := Lib.hid hg; clear hn hk hT hg))
  refine bodyPost_ret (v := .agg #[.int .i64 (x1 : Int), .int .i64 (x2 : Int), .int .i64 (x3 : Int), .int .i64 (x4 : Int), .int .i64 (x5 : Int), .slice p6 n6 c6]) (by rw [results_cell1 rfl]; go_simp) rfl ?_
  have g2 := setAll_one w6 rb 0 [.int .i64 (x1 : Int), .int .i64 (x2 : Int), .int .i64 (x3 : Int), .int .i64 (x4 : Int), .int .i64 (x5 : Int), .slice p6 n6 c6]
  exact ⟨x1, x2, x3, x4, x5, p6, n6, c6, l6, z6, b6, rfl, L6.out, ((intsOwn_kept O6.out g2 R1.out (by decide)).mono (by have := W0.out.size; have := G1.out.size; have := G2.out.size; have := G3.out.size; have := G4.out.size; have := G5.out.size; omega)), took_step K1.out K2.out K3.out K4.out K5.out K6.out, T6.out.kept g2 (fun g e => by cases e; exact NR.out), grown_trans (grown_trans W0.out GG.out (fun _ e => .inl e)) g2 (fun g e => by cases e; exact .inr (by rw [RB.out]; exact Nat.le_refl _))⟩
def QNod (tb : Nat) (z : ByteArray) (b : Bool) (w : World) (en : Ending) (w' : World) : Prop := ∃ (x1 x2 x3 x4 : Int) (kp : Option Addr) (kn kc : Nat) (ks : List Int) (z' : ByteArray) (b' : Bool), en = .returned (.agg #[.int .i64 x1, .int .i64 x2, .int .i64 x3, .int .i64 x4, .slice kp kn kc]) ∧ ks.length = kn ∧ lyI.Own w' w.heap.size (.slice kp kn kc) ks ∧ Took QNd nodeC (bytesOf z) b ⟨x1, x2, x3, x4, ks⟩ (bytesOf z') b' ∧ TkP w' tb z' b' ∧ w.grownBy w' (some tb)
set_option maxRecDepth 100000 in
set_option maxHeartbeats 4000000 in
theorem qnod_any (z : ByteArray) (tb : Nat) (b : Bool) (w : World) (h : TkP w tb z b) : Calls Tryz.prog 118 #[.pointer (some ⟨tb, 0, none⟩)] w (QNod tb z b w) := by
  have TT := Lib.hid h
  clear h
  go_enter Tryz.func118, Tryz.ntmps118
  go_upto_region 1 with fail
  have R0 : Hid ((w.alloc (.cells #[.int .i64 0, .int .i64 0, .int .i64 0, .int .i64 0, .slice none 0 0] 109)).heap[w.heap.size]? = some (.cells #[.int .i64 0, .int .i64 0, .int .i64 0, .int .i64 0, .slice none 0 0] 109 (0, 0))) := Lib.hid (heap_alloc_new w _)
  have T0 := Lib.hid (TT.out.kept (World.grownBy_alloc w (.cells #[.int .i64 0, .int .i64 0, .int .i64 0, .int .i64 0, .slice none 0 0] 109) none) (fun g e => by cases e))
  have W0 : Hid (w.grownBy (w.alloc (.cells #[.int .i64 0, .int .i64 0, .int .i64 0, .int .i64 0, .slice none 0 0] 109)) (some tb)) := Lib.hid (World.grownBy_alloc w _ _)
  have S0 : Hid (w.heap.size ≤ (w.alloc (.cells #[.int .i64 0, .int .i64 0, .int .i64 0, .int .i64 0, .slice none 0 0] 109)).heap.size) := Lib.hid (by simp)
  have NR : Hid (w.heap.size ≠ tb) := Lib.hid (TT.out.out_of (Nat.le_refl _))
  clear TT
  generalize w.alloc (.cells #[.int .i64 0, .int .i64 0, .int .i64 0, .int .i64 0, .slice none 0 0] 109) = w0 at R0 T0 W0 S0 ⊢
  generalize hrb : w.heap.size = rb at R0 NR S0 ⊢
  have RB := Lib.hid hrb
  clear hrb
  go_wp2_with (first | (have HH := T4; go_at_call 144; refine (qis_any z4 tb b4 w4 T4.out).mono ?_; rintro e w5 ⟨p5, n5, c5, l5, z5, b5, rfl, hl, ho, hk, hT, hg⟩; have K5 := Lib.hid hk; have T5 := Lib.hid hT; have G5 := Lib.hid hg; have O5 := Lib.hid ho; have L5 := Lib.hid hl; clear hk hT hg ho hl; have GG := Lib.hid (grown_trans (grown_trans (grown_trans (grown_trans G1.out G2.out (fun _ e => .inl e)) G3.out (fun _ e => .inl e)) G4.out (fun _ e => .inl e)) G5.out (fun _ e => .inl e)); have R1 := Lib.hid (box_keptP R0.out GG.out NR.out); have r0 := (obj_cells R1.out).1 0 _ rfl; have r1 := (obj_cells R1.out).1 1 _ rfl; have r2 := (obj_cells R1.out).1 2 _ rfl; have r3 := (obj_cells R1.out).1 3 _ rfl; have r4 := (obj_cells R1.out).1 4 _ rfl; have rf := (obj_cells R1.out).2.1) | (have HH := T3; go_at_call 75; refine (qnum_any z3 tb b3 w3 T3.out).mono ?_; rintro e w4 ⟨x4, z4, b4, rfl, hn, hk, hT, hg⟩; have K4 := Lib.hid hk; have T4 := Lib.hid hT; have G4 := Lib.hid hg; clear hn hk hT hg) | (have HH := T2; go_at_call 75; refine (qnum_any z2 tb b2 w2 T2.out).mono ?_; rintro e w3 ⟨x3, z3, b3, rfl, hn, hk, hT, hg⟩; have K3 := Lib.hid hk; have T3 := Lib.hid hT; have G3 := Lib.hid hg; clear hn hk hT hg) | (have HH := T1; go_at_call 75; refine (qnum_any z1 tb b1 w1 T1.out).mono ?_; rintro e w2 ⟨x2, z2, b2, rfl, hn, hk, hT, hg⟩; have K2 := Lib.hid hk; have T2 := Lib.hid hT; have G2 := Lib.hid hg; clear hn hk hT hg) | (go_at_call 75; refine (qnum_any z tb b w0 T0.out).mono ?_; rintro e w1 ⟨x1, z1, b1, rfl, hn, hk, hT, hg⟩; have K1 := Lib.hid hk; have T1 := Lib.hid hT; have G1 := Lib.hid hg; clear hn hk hT hg))
  refine bodyPost_ret (v := .agg #[.int .i64 (x1 : Int), .int .i64 (x2 : Int), .int .i64 (x3 : Int), .int .i64 (x4 : Int), .slice p5 n5 c5]) (by rw [results_cell1 rfl]; go_simp) rfl ?_
  have g2 := setAll_one w5 rb 0 [.int .i64 (x1 : Int), .int .i64 (x2 : Int), .int .i64 (x3 : Int), .int .i64 (x4 : Int), .slice p5 n5 c5]
  exact ⟨x1, x2, x3, x4, p5, n5, c5, l5, z5, b5, rfl, L5.out, ((intsOwn_kept O5.out g2 R1.out (by decide)).mono (by have := W0.out.size; have := G1.out.size; have := G2.out.size; have := G3.out.size; have := G4.out.size; omega)), took_node K1.out K2.out K3.out K4.out K5.out, T5.out.kept g2 (fun g e => by cases e; exact NR.out), grown_trans (grown_trans W0.out GG.out (fun _ e => .inl e)) g2 (fun g e => by cases e; exact .inr (by rw [RB.out]; exact Nat.le_refl _))⟩

end Go.Proofs.YtjmfjlffcopnnaaGreatDoor
