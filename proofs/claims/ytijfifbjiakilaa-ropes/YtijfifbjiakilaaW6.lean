/-
  Walks of Insert, Delete, Slice. Conditions: as each theorem's premises say.
-/
import Derived.Test.YtijfifbjiakilaaW3
import Derived.Test.YtijfifbjiakilaaW5
namespace Go.Proofs.Ytijfifbjiakilaa
open Go.RowKit

set_option maxHeartbeats 400000 in
theorem insert_nil (n : Int) (s : ByteArray) (w : World) : Calls Try.prog 10 #[.pointer none, .int .i64 n, .string s] w fun e w' => e = .returned (.int .i64 1) ∧ w = w' := by
  go_enter Try.func10, Try.ntmps10
  go_wp2
  go_ret
  exact ⟨rfl, rfl⟩

set_option maxHeartbeats 400000 in
theorem insert_there_no (r : Nat) (t : List UInt8) (n : Int) (s : ByteArray) (w : World) (h : Rope w r t) (hn : ¬ (0 ≤ n ∧ n ≤ (t.length : Int))) :
    Calls Try.prog 10 #[.pointer (some ⟨r, 0, none⟩), .int .i64 n, .string s] w fun e w' => e = .returned (.int .i64 100) ∧ w = w' := by
  obtain ⟨hl, ls, ⟨v, h0, h1, f0, f1, hr⟩, hsm, hti, hfl⟩ := h
  rw [hfl] at h1
  clear hfl hr hsm hti h0 f0 f1
  have N := Lib.hid hn; clear hn
  go_enter Try.func10, Try.ntmps10
  go_wp2_with (go_at_call 22; refine (has_no _ (t.length : Int) _ _ _ h1 (by omega) (by omega) (fun h => N.out ⟨h.1, h.2.1⟩)).mono ?_; rintro e w' ⟨rfl, rfl⟩)
  go_ret
  exact ⟨rfl, rfl⟩

set_option maxHeartbeats 400000 in
theorem insert_long (r : Nat) (t : List UInt8) (n : Int) (s : ByteArray) (w : World) (h : Rope w r t) (hn : 0 ≤ n ∧ n ≤ (t.length : Int)) (hs : 4096 < t.length + s.size) :
    Calls Try.prog 10 #[.pointer (some ⟨r, 0, none⟩), .int .i64 n, .string s] w fun e w' => e = .returned (.int .i64 100) ∧ w = w' := by
  obtain ⟨hl, ls, ⟨v, h0, h1, f0, f1, hr⟩, hsm, hti, hfl⟩ := h
  rw [hfl] at h1
  clear hfl hr hsm hti h0 f0 f1
  go_enter Try.func10, Try.ntmps10
  go_wp2_with (go_at_call 22; refine (has_yes _ (t.length : Int) _ _ _ h1 (by omega) (by omega) ⟨hn.1, hn.2, by omega, by omega⟩).mono ?_; rintro e w' ⟨rfl, rfl⟩)
  go_ret
  exact ⟨rfl, rfl⟩

set_option maxHeartbeats 400000 in
theorem insert_none (r : Nat) (t : List UInt8) (n : Int) (s : ByteArray) (w : World) (h : Rope w r t) (hn : 0 ≤ n ∧ n ≤ (t.length : Int)) (hs : s.size = 0) :
    Calls Try.prog 10 #[.pointer (some ⟨r, 0, none⟩), .int .i64 n, .string s] w fun e w' => e = .returned (.int .i64 0) ∧ w = w' := by
  obtain ⟨hl, ls, ⟨v, h0, h1, f0, f1, hr⟩, hsm, hti, hfl⟩ := h
  rw [hfl] at h1
  clear hfl hr hsm hti h0 f0 f1
  obtain rfl : s = ByteArray.empty := by
    obtain ⟨⟨l⟩⟩ := s
    cases l with
    | nil => rfl
    | cons _ _ => simp [ByteArray.size] at hs
  go_enter Try.func10, Try.ntmps10
  go_wp2_with (go_at_call 22; refine (has_yes _ (t.length : Int) _ _ _ h1 (by omega) (by omega) ⟨hn.1, hn.2, by omega, by omega⟩).mono ?_; rintro e w' ⟨rfl, rfl⟩)
  go_ret
  exact ⟨rfl, rfl⟩

/-- A rope is another one: the call answers OK. -/
def OkPost (r : Nat) (t : List UInt8) (w : World) (e : Ending) (w' : World) : Prop := e = .returned (.int .i64 0) ∧ Rope w' r t ∧ w.grownBy w' (some r)

/-- Behind the join: the two cells are stored. -/
theorem stored {w w3 : World} {r : Nat} {v v' : Value} {k : Int} {ls : List (List UInt8)} {t : List UInt8} (h0 : w.cell? ⟨r, 0, none⟩ = some v) (h1 : w.cell? ⟨r, 1, none⟩ = some (.int .i64 k)) (f0 : w.frozen? ⟨r, 0, none⟩ = false) (f1 : w.frozen? ⟨r, 1, none⟩ = false)
    (hb : Below w.heap.size w w3) (hrow : RowAt (fun b => b ≠ r) w3 v' ls) (hsm : Small ls) (hti : Tight ls) (hfl : ls.flatten = t) (ht : t.length ≤ 4096) (m : Int) (hm : m = (t.length : Int)) :
    Rope ((w3.setCell ⟨r, 0, none⟩ v').setCell ⟨r, 1, none⟩ (.int .i64 m)) r t ∧ w.grownBy ((w3.setCell ⟨r, 0, none⟩ v').setCell ⟨r, 1, none⟩ (.int .i64 m)) (some r) := by
  have hlt := World.block_lt_of_cell? w _ h0
  have e0 := (hb.cell (p := ⟨r, 0, none⟩) hlt).trans h0
  have e1 := (hb.cell (p := ⟨r, 1, none⟩) hlt).trans h1
  have g0 := (hb.frozen (p := ⟨r, 0, none⟩) hlt).trans f0
  have g1 := (hb.frozen (p := ⟨r, 1, none⟩) hlt).trans f1
  subst hm
  have hk : Keeps (fun b => b ≠ r) w3 ((w3.setCell ⟨r, 0, none⟩ v').setCell ⟨r, 1, none⟩ (.int .i64 (t.length : Int))) := fun a x ha hc => by
    rw [World.cell?_of_block (Below.heap_setCell _ ⟨r, 1, none⟩ _ a.block ha), World.cell?_of_block (Below.heap_setCell _ ⟨r, 0, none⟩ _ a.block ha)]
    exact hc
  refine ⟨⟨ht, ls, ⟨v', ?_, ?_, ?_, ?_, hrow.kept hk⟩, hsm, hti, hfl⟩, ⟨hb.os, hb.tape, hb.output, by simpa [World.setCell] using hb.size, fun k hk hne => ?_⟩⟩
  · rw [World.cell?_setCell_other _ _ _ _ (by simp)]; exact World.cell?_setCell_same _ _ _ e0
  · rw [hfl]; exact World.cell?_setCell_same _ _ _ (u := .int .i64 k) (by rw [World.cell?_setCell_other _ _ _ _ (by simp)]; exact e1)
  · simpa using g0
  · simpa using g1
  · have hkr : k ≠ r := fun e => hne (by rw [e])
    rw [Below.heap_setCell _ _ _ _ hkr, Below.heap_setCell _ _ _ _ hkr]
    exact hb.block k hk

theorem rows_three {ok : Nat → Prop} {w : World} {v1 v2 v3 : Value} {a b c : List (List UInt8)} {e : TypeId} (h1 : RowAt ok w v1 a) (h2 : RowAt ok w v2 b) (h3 : RowAt ok w v3 c) (s1 : Small a) (s2 : Small b) (s3 : Small c) :
    RowsAt ok (w.alloc (.cells #[v1, v2, v3] e)) w.heap.size [a, b, c] := by
  have hk : Keeps ok w (w.alloc (.cells #[v1, v2, v3] e)) := Keeps.of_grown (World.grownBy_alloc w _ none) (fun _ _ => by simp)
  intro i ls hi
  match i, hi with
  | 0, hi => simp at hi; subst hi; exact ⟨v1, by rw [World.cell?_alloc_mark]; rfl, h1.kept hk, s1⟩
  | 1, hi => simp at hi; subst hi; exact ⟨v2, by rw [World.cell?_alloc_mark]; rfl, h2.kept hk, s2⟩
  | 2, hi => simp at hi; subst hi; exact ⟨v3, by rw [World.cell?_alloc_mark]; rfl, h3.kept hk, s3⟩
  | n + 3, hi => simp at hi

theorem rows_two {ok : Nat → Prop} {w : World} {v1 v2 : Value} {a b : List (List UInt8)} {e : TypeId} (h1 : RowAt ok w v1 a) (h2 : RowAt ok w v2 b) (s1 : Small a) (s2 : Small b) :
    RowsAt ok (w.alloc (.cells #[v1, v2] e)) w.heap.size [a, b] := by
  have hk : Keeps ok w (w.alloc (.cells #[v1, v2] e)) := Keeps.of_grown (World.grownBy_alloc w _ none) (fun _ _ => by simp)
  intro i ls hi
  match i, hi with
  | 0, hi => simp at hi; subst hi; exact ⟨v1, by rw [World.cell?_alloc_mark]; rfl, h1.kept hk, s1⟩
  | 1, hi => simp at hi; subst hi; exact ⟨v2, by rw [World.cell?_alloc_mark]; rfl, h2.kept hk, s2⟩
  | n + 2, hi => simp at hi

theorem size_toList (s : ByteArray) : s.data.toList.length = s.size := by simp

theorem notEmpty {s : ByteArray} (h : 0 < s.size) : s.toList.isEmpty = false := by
  rw [ByteArray.toList_eq]
  cases hl : s.data.toList with
  | nil => have := size_toList s; rw [hl] at this; simp at this; omega
  | cons _ _ => rfl

set_option maxHeartbeats 1000000 in
theorem insert_ok (r : Nat) (t T : List UInt8) (n : Nat) (s : ByteArray) (w : World) (h : Rope w r t) (hn : n ≤ t.length) (hs : t.length + s.size ≤ 4096) (hs0 : 0 < s.size) (hT : T = t.take n ++ s.data.toList ++ t.drop n) :
    Calls Try.prog 10 #[.pointer (some ⟨r, 0, none⟩), .int .i64 n, .string s] w (OkPost r T w) := by
  have hrl := h.lt
  obtain ⟨hl, ls, ⟨v, h0, h1, f0, f1, hr⟩, hsm, hti, hfl⟩ := h
  rw [hfl] at h1
  have R := Lib.hid hr; have SM := Lib.hid hsm; have FL := Lib.hid hfl; have HT := Lib.hid hT
  have H0 := Lib.hid h0; have H1 := Lib.hid h1; have G0 := Lib.hid f0; have G1 := Lib.hid f1
  clear hfl hr hsm hti f0 f1 hT
  have hse : s.toList.isEmpty = false := notEmpty hs0
  go_enter Try.func10, Try.ntmps10
  go_wp2_with (go_at_call 22; refine (has_yes _ (t.length : Int) _ _ _ h1 (by omega) (by omega) ⟨by omega, by omega, by omega, by omega⟩).mono ?_; rintro e w' ⟨rfl, rfl⟩)
  refine (split_any (fun b => b ≠ r) v ls n w R.out (by rw [FL.out]; exact hl) SM.out (by omega) (fun b hb => by omega)).mono ?_
  rintro e w1 ⟨v1, v2, p, q, rfl, hp, hq, hsp, hsq, hfp, hfq, hb1⟩
  have PP := Lib.hid hp; have QQ := Lib.hid hq; have SP := Lib.hid hsp; have SQ := Lib.hid hsq; have FP := Lib.hid hfp; have FQ := Lib.hid hfq; have B1 := Lib.hid hb1
  obtain ⟨a1, c1, rfl⟩ := hp.form
  obtain ⟨a2, c2, rfl⟩ := hq.form
  clear hp hq hsp hsq hfp hfq hb1 h0 h1
  go_wp2_with fail
  refine (cut_any s w1 (by omega)).mono ?_
  rintro e w2 ⟨vc, lc, rfl, hc, hsc, -, hfc, hb2⟩
  have CC := Lib.hid hc; have SC := Lib.hid hsc; have FC := Lib.hid hfc; have B2 := Lib.hid hb2
  obtain ⟨a3, c3, rfl⟩ := hc.form
  clear hc hsc hfc hb2
  go_wp2_with fail
  refine (join_any (fun b => b ≠ r) w2.heap.size 3 [p, lc, q] _ (rows_three (PP.out.kept (Keeps.of_below B2.out)) (CC.out.wide fun b h => by have := B1.out.size; omega) (QQ.out.kept (Keeps.of_below B2.out)) SP.out SC.out SQ.out) (by simp) ?hlen (fun b hb => ?hok)).mono ?_
  rotate_left 2
  · rintro e w3 ⟨vj, lj, rfl, hj, hsj, htj, hfj, hb3⟩
    have JJ := Lib.hid hj; have SJ := Lib.hid hsj; have TJ := Lib.hid htj; have FJ := Lib.hid hfj
    obtain ⟨a4, c4, rfl⟩ := hj.form
    have B3 : Below w.heap.size w w3 := ((B1.out.trans (B2.out.mono B1.out.size)).alloc (by have := B1.out.size; have := B2.out.size; omega) _).trans (hb3.mono (by simp; have := B1.out.size; have := B2.out.size; omega))
    have BB := Lib.hid B3
    have e0 := cell_later B3 H0.out
    have e1 := cell_later B3 H1.out
    have g0 := (B3.frozen (p := ⟨r, 0, none⟩) hrl).trans G0.out
    have g1 := (B3.frozen (p := ⟨r, 1, none⟩) hrl).trans G1.out
    clear hj hsj htj hfj hb3 B3
    go_wp2
    go_ret
    have hlT : T.length = t.length + s.size := by rw [HT.out]; simp; omega
    have hfT : lj.flatten = T := by rw [FJ.out, HT.out]; simp [FP.out, FC.out, FQ.out, FL.out]
    exact ⟨rfl, stored H0.out H1.out G0.out G1.out BB.out JJ.out SJ.out TJ.out hfT (by omega) _ (by omega)⟩
  · simp only [List.flatten_cons, List.flatten_nil, List.append_nil, List.flatten_append, List.length_append, FP.out, FC.out, FQ.out, FL.out, List.length_take, List.length_drop, size_toList]
    omega
  · have h1 := B1.out.size; have h2 := B2.out.size
    simp at hb
    omega

set_option maxHeartbeats 400000 in
theorem delete_no (r : Nat) (t : List UInt8) (n k : Int) (w : World) (h : Rope w r t) (hn : ¬ (0 ≤ n ∧ n ≤ (t.length : Int) ∧ 0 ≤ k ∧ k ≤ (t.length : Int) - n)) :
    Calls Try.prog 11 #[.pointer (some ⟨r, 0, none⟩), .int .i64 n, .int .i64 k] w fun e w' => e = .returned (.int .i64 100) ∧ w = w' := by
  obtain ⟨hl, ls, ⟨v, h0, h1, f0, f1, hr⟩, hsm, hti, hfl⟩ := h
  rw [hfl] at h1
  clear hfl hr hsm hti h0 f0 f1
  have N := Lib.hid hn; clear hn
  go_enter Try.func11, Try.ntmps11
  go_wp2_with (go_at_call 22; refine (has_no _ (t.length : Int) _ _ _ h1 (by omega) (by omega) N.out).mono ?_; rintro e w' ⟨rfl, rfl⟩)
  go_ret
  exact ⟨rfl, rfl⟩

set_option maxHeartbeats 400000 in
theorem delete_none (r : Nat) (t : List UInt8) (n : Int) (w : World) (h : Rope w r t) (hn : 0 ≤ n ∧ n ≤ (t.length : Int)) :
    Calls Try.prog 11 #[.pointer (some ⟨r, 0, none⟩), .int .i64 n, .int .i64 0] w fun e w' => e = .returned (.int .i64 0) ∧ w = w' := by
  obtain ⟨hl, ls, ⟨v, h0, h1, f0, f1, hr⟩, hsm, hti, hfl⟩ := h
  rw [hfl] at h1
  clear hfl hr hsm hti h0 f0 f1
  go_enter Try.func11, Try.ntmps11
  go_wp2_with (go_at_call 22; refine (has_yes _ (t.length : Int) _ _ _ h1 (by omega) (by omega) ⟨hn.1, hn.2, by omega, by omega⟩).mono ?_; rintro e w' ⟨rfl, rfl⟩)
  go_ret
  exact ⟨rfl, rfl⟩

set_option maxHeartbeats 1000000 in
theorem delete_ok (r : Nat) (t T : List UInt8) (n k : Nat) (w : World) (h : Rope w r t) (hn : n + k ≤ t.length) (hk0 : 0 < k) (hT : T = t.take n ++ t.drop (n + k)) :
    Calls Try.prog 11 #[.pointer (some ⟨r, 0, none⟩), .int .i64 n, .int .i64 k] w (OkPost r T w) := by
  have hrl := h.lt
  obtain ⟨hl, ls, ⟨v, h0, h1, f0, f1, hr⟩, hsm, hti, hfl⟩ := h
  rw [hfl] at h1
  have R := Lib.hid hr; have SM := Lib.hid hsm; have FL := Lib.hid hfl; have HT := Lib.hid hT
  have H0 := Lib.hid h0; have H1 := Lib.hid h1; have G0 := Lib.hid f0; have G1 := Lib.hid f1
  clear hfl hr hsm hti f0 f1 hT
  have hk0' : ((k : Int) == 0) = false := beq_eq_false_iff_ne.2 (by omega)
  go_enter Try.func11, Try.ntmps11
  go_wp2_with (go_at_call 22; refine (has_yes _ (t.length : Int) _ _ _ h1 (by omega) (by omega) ⟨by omega, by omega, by omega, by omega⟩).mono ?_; rintro e w' ⟨rfl, rfl⟩)
  refine (split_any (fun b => b ≠ r) v ls n w R.out (by rw [FL.out]; exact hl) SM.out (by omega) (fun b hb => by omega)).mono ?_
  rintro e w1 ⟨v1, v2, p, q, rfl, hp, hq, hsp, hsq, hfp, hfq, hb1⟩
  have PP := Lib.hid hp; have QQ := Lib.hid hq; have SP := Lib.hid hsp; have SQ := Lib.hid hsq; have FP := Lib.hid hfp; have FQ := Lib.hid hfq; have B1 := Lib.hid hb1
  obtain ⟨a1, c1, rfl⟩ := hp.form
  obtain ⟨a2, c2, rfl⟩ := hq.form
  clear hp hq hsp hsq hfp hfq hb1 h0 h1
  go_wp2_with fail
  refine (split_any (fun b => b ≠ r) _ q k w1 QQ.out (by rw [FQ.out, FL.out, List.length_drop]; omega) SQ.out (by omega) (fun b hb => by have := B1.out.size; omega)).mono ?_
  rintro e w2 ⟨v3, v4, p2, q2, rfl, hp2, hq2, hsp2, hsq2, hfp2, hfq2, hb2⟩
  have QQ2 := Lib.hid hq2; have SQ2 := Lib.hid hsq2; have FQ2 := Lib.hid hfq2; have B2 := Lib.hid hb2
  obtain ⟨a3, c3, rfl⟩ := hp2.form
  obtain ⟨a4, c4, rfl⟩ := hq2.form
  clear hp2 hq2 hsp2 hsq2 hfp2 hfq2 hb2
  go_wp2_with fail
  refine (join_any (fun b => b ≠ r) w2.heap.size 2 [p, q2] _ (rows_two (PP.out.kept (Keeps.of_below B2.out)) QQ2.out SP.out SQ2.out) (by simp) ?hlen (fun b hb => ?hok)).mono ?_
  rotate_left 2
  · rintro e w3 ⟨vj, lj, rfl, hj, hsj, htj, hfj, hb3⟩
    have JJ := Lib.hid hj; have SJ := Lib.hid hsj; have TJ := Lib.hid htj; have FJ := Lib.hid hfj
    obtain ⟨a5, c5, rfl⟩ := hj.form
    have B3 : Below w.heap.size w w3 := ((B1.out.trans (B2.out.mono B1.out.size)).alloc (by have := B1.out.size; have := B2.out.size; omega) _).trans (hb3.mono (by simp; have := B1.out.size; have := B2.out.size; omega))
    have BB := Lib.hid B3
    have e0 := cell_later B3 H0.out
    have e1 := cell_later B3 H1.out
    have g0 := (B3.frozen (p := ⟨r, 0, none⟩) hrl).trans G0.out
    have g1 := (B3.frozen (p := ⟨r, 1, none⟩) hrl).trans G1.out
    clear hj hsj htj hfj hb3 B3
    go_wp2
    go_ret
    have hlT : T.length = t.length - k := by rw [HT.out]; simp; omega
    have hfT : lj.flatten = T := by rw [FJ.out, HT.out]; simp [FP.out, FQ2.out, FQ.out, FL.out]
    exact ⟨rfl, stored H0.out H1.out G0.out G1.out BB.out JJ.out SJ.out TJ.out hfT (by omega) _ (by omega)⟩
  · simp only [List.flatten_cons, List.flatten_nil, List.append_nil, List.flatten_append, List.length_append, FP.out, FQ2.out, FQ.out, FL.out, List.length_take, List.length_drop]
    omega
  · have h1 := B1.out.size; have h2 := B2.out.size
    simp at hb
    omega

set_option maxHeartbeats 400000 in
theorem slice_no (r : Nat) (t : List UInt8) (n k : Int) (w : World) (h : Rope w r t) (hn : ¬ (0 ≤ n ∧ n ≤ (t.length : Int) ∧ 0 ≤ k ∧ k ≤ (t.length : Int) - n)) :
    Calls Try.prog 12 #[.pointer (some ⟨r, 0, none⟩), .int .i64 n, .int .i64 k] w fun e w' => e = .returned (.tuple #[.string ByteArray.empty, .int .i64 100]) ∧ w = w' := by
  obtain ⟨hl, ls, ⟨v, h0, h1, f0, f1, hr⟩, hsm, hti, hfl⟩ := h
  rw [hfl] at h1
  clear hfl hr hsm hti h0 f0 f1
  have N := Lib.hid hn; clear hn
  go_enter Try.func12, Try.ntmps12
  go_wp2_with (go_at_call 22; refine (has_no _ (t.length : Int) _ _ _ h1 (by omega) (by omega) N.out).mono ?_; rintro e w' ⟨rfl, rfl⟩)
  go_ret2
  exact ⟨rfl, rfl⟩

set_option maxHeartbeats 400000 in
theorem slice_nil (n k : Int) (w : World) : Calls Try.prog 12 #[.pointer none, .int .i64 n, .int .i64 k] w fun e w' => e = .returned (.tuple #[.string ByteArray.empty, .int .i64 1]) ∧ w = w' := by
  go_enter Try.func12, Try.ntmps12
  go_wp2
  go_ret2
  exact ⟨rfl, rfl⟩

set_option maxHeartbeats 1000000 in
theorem slice_ok (r : Nat) (t T : List UInt8) (n k : Nat) (w : World) (h : Rope w r t) (hn : n + k ≤ t.length) (hT : T = (t.drop n).take k) :
    Calls Try.prog 12 #[.pointer (some ⟨r, 0, none⟩), .int .i64 n, .int .i64 k] w fun e w' => e = .returned (.tuple #[.string ⟨T.toArray⟩, .int .i64 0]) ∧ Below w.heap.size w w' := by
  have hrl := h.lt
  obtain ⟨hl, ls, ⟨v, h0, h1, f0, f1, hr⟩, hsm, hti, hfl⟩ := h
  rw [hfl] at h1
  have R := Lib.hid hr; have SM := Lib.hid hsm; have FL := Lib.hid hfl; have HT := Lib.hid hT
  clear hfl hr hsm hti f0 f1 hT
  go_enter Try.func12, Try.ntmps12
  go_wp2_with (go_at_call 22; refine (has_yes _ (t.length : Int) _ _ _ h1 (by omega) (by omega) ⟨by omega, by omega, by omega, by omega⟩).mono ?_; rintro e w' ⟨rfl, rfl⟩)
  refine (split_any (fun b => b ≠ r) v ls n w R.out (by rw [FL.out]; exact hl) SM.out (by omega) (fun b hb => by omega)).mono ?_
  rintro e w1 ⟨v1, v2, p, q, rfl, hp, hq, hsp, hsq, hfp, hfq, hb1⟩
  have QQ := Lib.hid hq; have SQ := Lib.hid hsq; have FQ := Lib.hid hfq; have B1 := Lib.hid hb1
  obtain ⟨a1, c1, rfl⟩ := hp.form
  obtain ⟨a2, c2, rfl⟩ := hq.form
  clear hp hq hsp hsq hfp hfq hb1 h0 h1
  go_wp2_with fail
  refine (split_any (fun b => b ≠ r) _ q k w1 QQ.out (by rw [FQ.out, FL.out, List.length_drop]; omega) SQ.out (by omega) (fun b hb => by have := B1.out.size; omega)).mono ?_
  rintro e w2 ⟨v3, v4, p2, q2, rfl, hp2, hq2, hsp2, hsq2, hfp2, hfq2, hb2⟩
  have PP2 := Lib.hid hp2; have SP2 := Lib.hid hsp2; have FP2 := Lib.hid hfp2; have B2 := Lib.hid hb2
  obtain ⟨a3, c3, rfl⟩ := hp2.form
  obtain ⟨a4, c4, rfl⟩ := hq2.form
  clear hp2 hq2 hsp2 hsq2 hfp2 hfq2 hb2
  go_wp2_with fail
  refine (text_any (fun b => b ≠ r) _ p2 w2 PP2.out (by rw [FP2.out, List.length_take]; omega) SP2.out).mono ?_
  rintro e w3 ⟨rfl, hb3⟩
  have hfT : p2.flatten = T := by rw [FP2.out, FQ.out, FL.out, HT.out]
  rw [hfT]
  have B3 := Lib.hid hb3
  clear hb3 hfT
  go_wp2
  go_ret2
  exact ⟨rfl, (B1.out.trans (B2.out.mono B1.out.size)).trans (B3.out.mono (Nat.le_trans B1.out.size B2.out.size))⟩

end Go.Proofs.Ytijfifbjiakilaa
