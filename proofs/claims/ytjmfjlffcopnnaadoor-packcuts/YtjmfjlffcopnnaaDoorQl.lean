/-
  The program's taker: number, truth, text, letter: the walks. Conditions: as each theorem's premises say.
-/
import Derived.Test.YtjmfjlffcopnnaaDoorQd
import Derived.Test.YtjmfjlffcopnnaaDoorM01
import Derived.Test.YtjmfjlffcopnnaaDoorM33
namespace Go.Proofs.YtjmfjlffcopnnaaDoor
open Go.RowKit

def QNum (tb : Nat) (z : ByteArray) (b : Bool) (w : World) (en : Ending) (w' : World) : Prop := ∃ (n : Nat) (z' : ByteArray) (b' : Bool), en = .returned (.int .i64 n) ∧ n ≤ 16777216 ∧ Took NuP numC (bytesOf z) b n (bytesOf z') b' ∧ TkP w' tb z' b' ∧ w.grownBy w' (some tb)
set_option maxRecDepth 100000 in
theorem qnum_any (z : ByteArray) (tb : Nat) (b : Bool) (w : World) (h : TkP w tb z b) : Calls Tryd.prog 35 #[.pointer (some ⟨tb, 0, none⟩)] w (QNum tb z b w) := by
  have D : Hid (Calls Tryd.prog 61 #[.pointer (some ⟨tb, 0, none⟩), .int .u8 44] w (DigT 44 tb z b w)) := Lib.hid (qdigits_any 44 (by decide) z tb b w h)
  clear h
  go_enter Tryd.func35, Tryd.ntmps35
  go_wp2_with (go_at_call 61; refine D.out.mono ?_; rintro e w2 ⟨n, z', b', rfl, hn, hk, hT, hg⟩; have T2 := Lib.hid hT; have G2 := Lib.hid hg; have K2 := Lib.hid hk; clear hT hg hk)
  go_ret
  exact ⟨n, z', b', rfl, hn, K2.out, T2.out, G2.out⟩

def QTru (tb : Nat) (z : ByteArray) (b : Bool) (w : World) (en : Ending) (w' : World) : Prop := ∃ (x : Bool) (z' : ByteArray) (b' : Bool), en = .returned (.bool x) ∧ Took (fun _ => True) truC (bytesOf z) b x (bytesOf z') b' ∧ TkP w' tb z' b' ∧ w.grownBy w' (some tb)
set_option maxRecDepth 100000 in
theorem qtru_any (z : ByteArray) (tb : Nat) (b : Bool) (w : World) (h : TkP w tb z b) : Calls Tryd.prog 40 #[.pointer (some ⟨tb, 0, none⟩)] w (QTru tb z b w) := by
  have D := Lib.hid (qnum_any z tb b w h)
  clear h
  go_enter Tryd.func40, Tryd.ntmps40
  go_upto_region 2 with (go_at_call 35; refine D.out.mono ?_; rintro e w2 ⟨n, z', b', rfl, hn, hk, hT, hg⟩; have T2 := Lib.hid hT; have G2 := Lib.hid hg; have K2 := Lib.hid hk; clear hT hg hk)
  clear D
  by_cases q : 1 < n
  · have k : decide ((1 : Int) < (n : Int)) = true := decide_eq_true (by omega)
    have k1 : ((n : Int) == 1) = false := by rw [beq_eq_false_iff_ne]; omega
    go_wp2_with (go_at_call 60; refine (qrefuse_any z' tb b' w2 T2.out).mono ?_; rintro e w3 ⟨rfl, hT, hg⟩; have T3 := Lib.hid hT; have G3 := Lib.hid (grown_trans G2.out hg (fun _ h => .inl h)); clear hT hg)
    go_ret
    exact ⟨_, ⟨#[]⟩, true, rfl, took_tru_no K2.out q _, T3.out, G3.out⟩
  · have k : decide ((1 : Int) < (n : Int)) = false := decide_eq_false (by omega)
    by_cases q1 : n = 1
    · have k1 : ((n : Int) == 1) = true := by rw [beq_iff_eq]; omega
      have Q := Lib.hid q1
      clear q1
      go_wp2_with fail
      go_ret
      exact ⟨_, z', b', rfl, took_tru_yes K2.out (by omega) (by simp [Q.out]), T2.out, G2.out⟩
    · have k1 : ((n : Int) == 1) = false := by rw [beq_eq_false_iff_ne]; omega
      go_wp2_with fail
      go_ret
      exact ⟨_, z', b', rfl, took_tru_yes K2.out (by omega) (by simp [q1]), T2.out, G2.out⟩

theorem ix_cases : ∀ (l : List UInt8) (c : UInt8), (Lib.indexByte l c = -1 ∧ c ∉ l) ∨ ∃ k : Nat, Lib.indexByte l c = (k : Int) ∧ l[k]? = some c
  | [], c => .inl ⟨rfl, by simp⟩
  | a :: l, c => by
    unfold Lib.indexByte
    by_cases h : a = c
    · right
      exact ⟨0, by simp [h], by simp [h]⟩
    · rcases ix_cases l c with ⟨h1, h2⟩ | ⟨k, h1, h2⟩
      · left
        exact ⟨by simp [h, h1], by simp [h2]; exact fun e => h e.symm⟩
      · right
        refine ⟨k + 1, ?_, by simpa using h2⟩
        have : ¬ ((k : Int) = -1) := by omega
        simp [h, h1, this]

def QLet (L : ByteArray) (tb : Nat) (z : ByteArray) (b : Bool) (w : World) (en : Ending) (w' : World) : Prop := ∃ (k : Nat) (z' : ByteArray) (b' : Bool), en = .returned (.int .i64 k) ∧ k < L.size ∧ Took (LeP (bytesOf L)) (letC (bytesOf L)) (bytesOf z) b k (bytesOf z') b' ∧ TkP w' tb z' b' ∧ w.grownBy w' (some tb)
set_option maxRecDepth 100000 in
set_option maxHeartbeats 1000000 in
theorem qlet_any (L : ByteArray) (hL : 0 < L.size) (z : ByteArray) (tb : Nat) (b : Bool) (w : World) (h : TkP w tb z b) : Calls Tryd.prog 34 #[.pointer (some ⟨tb, 0, none⟩), .string L] w (QLet L tb z b w) := by
  have T := Lib.hid h
  have hz := h.le
  clear h
  have c0 : w.cell? ⟨tb, 0, none⟩ = some (.string z) := (obj_cells T.out.obj).1 0 _ rfl
  by_cases q0 : z.size = 0
  · have hze : z = ⟨#[]⟩ := by
      apply ByteArray.ext
      exact Array.eq_empty_of_size_eq_zero q0
    have ZE := Lib.hid hze
    rw [hze] at c0
    clear hze q0
    go_enter Tryd.func34, Tryd.ntmps34
    go_wp2_with (go_at_call 60; refine (qrefuse_any z tb b w T.out).mono ?_; rintro e w2 ⟨rfl, hT, hg⟩; have T2 := Lib.hid hT; have G2 := Lib.hid hg; clear hT hg)
    go_ret
    exact ⟨0, ⟨#[]⟩, true, rfl, hL, took_let_no (.inl (by rw [ZE.out]; rfl)), T2.out, G2.out⟩
  · have q1 : 0 < z.size := by omega
    have q2 : (0 : Int) < (z.size : Int) := by omega
    obtain ⟨c, hc⟩ : ∃ c, z[0] = c := ⟨_, rfl⟩
    have HZ : Hid (bytesOf z = c :: (bytesOf z).drop 1) := Lib.hid (by
      have h1 := List.drop_eq_getElem_cons (l := bytesOf z) (i := 0) (by rw [bytes_size]; omega)
      have h2 := (List.getElem?_eq_some_iff.1 (bytes_at q1)).2
      rw [h2, hc] at h1
      exact h1)
    have c8 := c.toNat_lt
    have hcc : ((c.toNat : Int)).toNat.toUInt8 = c := by simp
    have IX := Lib.hid (Any.strings_IndexByte Tryd.laysIndexByte L (c.toNat : Int) w)
    have IC := ix_cases L.data.toList c
    rw [hcc] at IX
    have ne : z.toList.isEmpty = false := by
      rw [K.isEmpty_size]
      exact decide_eq_false (by omega)
    generalize hix : Lib.indexByte L.data.toList c = ix at IX IC
    clear hix
    rcases IC with ⟨rfl, hno⟩ | ⟨k, rfl, hk⟩
    · have HN := Lib.hid hno
      clear hno
      go_enter Tryd.func34, Tryd.ntmps34
      go_wp2_with (first | (go_at_call 59; refine IX.out.mono ?_; rintro e w1 ⟨rfl, rfl⟩) | (go_at_call 60; refine (qrefuse_any z tb b _ T.out).mono ?_; rintro e w2 ⟨rfl, hT, hg⟩; have T2 := Lib.hid hT; have G2 := Lib.hid hg; clear hT hg))
      go_ret
      exact ⟨0, ⟨#[]⟩, true, rfl, hL, took_let_no (.inr ⟨c, _, HZ.out, HN.out⟩), T2.out, G2.out⟩
    · have HK := Lib.hid hk
      have hkL : k < L.size := by
        have := (List.getElem?_eq_some_iff.1 hk).1
        simpa using this
      clear hk
      have kneg : decide ((k : Int) < 0) = false := decide_eq_false (by omega)
      have f0 := (obj_cells T.out.obj).2.1 0
      have q3 : (1 : Int) ≤ (z.size : Int) := by omega
      have NB : Hid (b = false) := Lib.hid (by
        cases b with
        | false => rfl
        | true => rw [T.out.emp rfl] at q1; exact absurd q1 (Nat.not_lt_zero _))
      go_enter Tryd.func34, Tryd.ntmps34
      go_wp2_with (first | (go_at_call 59; refine IX.out.mono ?_; rintro e w2 ⟨rfl, rfl⟩))
      go_ret
      refine ⟨k, z.extract 1 z.size, b, rfl, hkL, ?_, ⟨?_, ?_, ?_⟩, grown_set (grown_refl _ _) _⟩
      · rw [bytes_ext]
        exact took_let_yes (fun e => by rw [NB.out] at e; cases e) HK.out HZ.out
      · rw [heap_setCell_at T.out.obj]
        rfl
      · rw [ByteArray.size_extract]
        omega
      · intro e
        rw [NB.out] at e
        cases e

set_option maxRecDepth 100000 in
theorem qclone_any (x : ByteArray) (w : World) (hx : x.size ≤ 281474976710656) : Calls Tryd.prog 64 #[.string x] w fun e w' => e = .returned (.string x) ∧ Below w.heap.size w w' := by
  have CL : Hid (Calls Tryd.prog 84 #[.string x] w fun e w' => e = .returned (.string x) ∧ Below w.heap.size w w') := Lib.hid (Any.stringslite_Clone Tryd.laysClone x w hx)
  go_enter Tryd.func64, Tryd.ntmps64
  go_wp2_with (go_at_call 84; refine CL.out.mono ?_; rintro e w3 ⟨rfl, hb⟩; have B3 := Lib.hid hb; clear hb)
  go_ret
  exact ⟨rfl, B3.out⟩

def QStr (tb : Nat) (z : ByteArray) (b : Bool) (w : World) (en : Ending) (w' : World) : Prop := ∃ (x z' : ByteArray) (b' : Bool), en = .returned (.string x) ∧ Took QStrP strF (bytesOf z) b x (bytesOf z') b' ∧ TkP w' tb z' b' ∧ w.grownBy w' (some tb)
set_option maxRecDepth 100000 in
set_option maxHeartbeats 1000000 in
theorem qstr_any (z : ByteArray) (tb : Nat) (b : Bool) (w : World) (h : TkP w tb z b) : Calls Tryd.prog 41 #[.pointer (some ⟨tb, 0, none⟩)] w (QStr tb z b w) := by
  have D : Hid (Calls Tryd.prog 61 #[.pointer (some ⟨tb, 0, none⟩), .int .u8 58] w (DigT 58 tb z b w)) := Lib.hid (qdigits_any 58 (by decide) z tb b w h)
  clear h
  go_enter Tryd.func41, Tryd.ntmps41
  go_upto_region 2 with (go_at_call 61; refine D.out.mono ?_; rintro e w2 ⟨n, z', b', rfl, hn, hk, hT, hg⟩; have T2 := Lib.hid hT; have G2 := Lib.hid hg; have K2 := Lib.hid hk; clear hT hg hk)
  clear D
  have c0 : w2.cell? ⟨tb, 0, none⟩ = some (.string z') := (obj_cells T2.out.obj).1 0 _ rfl
  have hz := T2.out.le
  by_cases q : z'.size < n
  · have k : decide ((z'.size : Int) < (n : Int)) = true := decide_eq_true (by omega)
    go_wp2_with (go_at_call 60; refine (qrefuse_any z' tb b' w2 T2.out).mono ?_; rintro e w3 ⟨rfl, hT, hg⟩; have T3 := Lib.hid hT; have G3 := Lib.hid (grown_trans G2.out hg (fun _ h => .inl h)); clear hT hg)
    go_ret
    exact ⟨_, ⟨#[]⟩, true, rfl, took_str_no K2.out (by rw [bytes_size]; exact q) _, T3.out, G3.out⟩
  · have k : decide ((z'.size : Int) < (n : Int)) = false := decide_eq_false (by omega)
    have k0 : (0 : Int) ≤ (n : Int) := by omega
    have k1 : (n : Int) ≤ (z'.size : Int) := by omega
    have hnz : n ≤ z'.size := by omega
    obtain ⟨x, hx⟩ : ∃ x, z'.extract 0 n = x := ⟨_, rfl⟩
    have HX : Hid (bytesOf x = (bytesOf z').take n) := Lib.hid (by
      rw [← hx]
      unfold bytesOf
      rw [ByteArray.data_extract, Array.toList_extract, List.extract_eq_take_drop]
      simp)
    have hxs : x.size ≤ 281474976710656 := by
      rw [← hx, ByteArray.size_extract]
      omega
    have CL : Hid (∀ W : World, Calls Tryd.prog 64 #[.string x] W fun e w' => e = .returned (.string x) ∧ Below W.heap.size W w') := Lib.hid (fun W => qclone_any x W hxs)
    clear hxs
    go_upto_region 6 with (go_at_call 64; refine (CL.out _).mono ?_; rintro e w3 ⟨rfl, hb⟩; have B3 := Lib.hid hb; clear hb)
    have T3 : Hid (TkP w3 tb z' b') := Lib.hid (T2.out.kept (grown_of_below B3.out none) (fun g e => by cases e))
    have G3 : Hid (w.grownBy w3 (some tb)) := Lib.hid (grown_trans G2.out (grown_of_below B3.out (some tb)) (fun _ h => .inl h))
    clear c0 T2 G2 B3
    have c0 : w3.cell? ⟨tb, 0, none⟩ = some (.string z') := (obj_cells T3.out.obj).1 0 _ rfl
    have f0 := (obj_cells T3.out.obj).2.1 0
    go_wp2_with fail
    go_ret
    refine ⟨x, z'.extract n z'.size, b', rfl, took_str_yes K2.out HX.out (by rw [bytes_size]; exact hnz) (bytes_ext _ _), ⟨?_, ?_, ?_⟩, grown_set G3.out _⟩
    · rw [heap_setCell_at T3.out.obj]
      rfl
    · rw [ByteArray.size_extract]
      omega
    · intro e
      have := T3.out.emp e
      subst this
      apply ByteArray.ext
      apply Array.eq_empty_of_size_eq_zero
      rw [ByteArray.data_extract, Array.size_extract]
      simp

end Go.Proofs.YtjmfjlffcopnnaaDoor
