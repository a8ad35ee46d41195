/-
  The walk of Apply. Conditions: as the theorems' premises say.
-/
import Derived.Test.YtmlibmleamiljaaAppM
import Derived.Lib.AppendStr
import Derived.Lib.SlBytesRow
namespace Go.Proofs.Ytmlibmleamiljaa
open Go.RowKit

theorem info5 : (Try.prog.info? 5).map (fun i => (i.zero, i.size, i.bytes)) = some (some (.int .u8 0), 1, 1) := by kernel_rfl

/-- What Apply answers. -/
def ApplyPost (s : ByteArray) (cs : List C) (w : World) (e : Ending) (w' : World) : Prop :=
  Below w.heap.size w w' ∧ ((e = .returned (.tuple #[.string (appB s 0 cs), .int .i64 0]) ∧ MayP cs ∧ sumOf fromC cs = s.size) ∨ (e = .returned (.tuple #[.string e0, .int .i64 300]) ∧ ¬ (MayP cs ∧ sumOf fromC cs = s.size)))

/-- v is a slice of these bytes in memory of the call's own. -/
def OwnB (w : World) (base : Nat) (v : Value) (s : ByteArray) : Prop := w.ownsRow base 5 1 v s.size (Lib.strCells s)

theorem OwnB.form {w : World} {base : Nat} {v : Value} {s : ByteArray} (h : OwnB w base v s) : (v = .slice none 0 0 ∧ s = e0) ∨ ∃ g cap, v = .slice (some ⟨g, 0, none⟩) s.size cap := by
  rcases h.2 with ⟨h, hn⟩ | ⟨g, cap, _, h, _⟩
  · exact .inl ⟨h, e0_of hn⟩
  · exact .inr ⟨_, _, h⟩
theorem OwnB.bytes {w : World} {base g n cap : Nat} {s : ByteArray} (h : OwnB w base (.slice (some ⟨g, 0, none⟩) n cap) s) : Lib.Bytes w g 0 s := by
  intro i hi
  have := World.ownsRow.cells h (g := g) rfl i (.int .u8 (s[i].toNat : Int)) (by
    unfold Lib.strCells
    rw [List.getElem?_map, byte_at s i hi]; rfl)
  rwa [add_plain] at this
theorem OwnB.below {w w' : World} {base : Nat} {v : Value} {s : ByteArray} (h : OwnB w base v s) (hb : Below w.heap.size w w') : OwnB w' base v s :=
  World.ownsRow.kept (row := none) h ⟨hb.os, hb.tape, hb.output, hb.size, fun k hk _ => hb.block k hk⟩ (by cases v.ownBlock <;> simp)
theorem OwnB.lt {w : World} {base : Nat} {v : Value} {s : ByteArray} (h : OwnB w base v s) {g : Nat} (hg : v.ownBlock = some g) : base ≤ g ∧ g < w.heap.size := World.ownsRow.lt h g hg
theorem strCells_append (s t : ByteArray) : Lib.strCells (s ++ t) = Lib.strCells s ++ Lib.strCells t := by unfold Lib.strCells; rw [ba_append_list, List.map_append]
theorem OwnB.of_append {w : World} {base : Nat} {v : Value} {s t : ByteArray} (h : w.ownsRow base 5 1 v (s.size + t.size) (Lib.strCells s ++ Lib.strCells t)) : OwnB w base v (s ++ t) := by
  unfold OwnB
  rw [strCells_append, ba_append_size]; exact h
/-- A piece in another block than the row stands. -/
theorem PieceAt.grown {w w' : World} {b o : Nat} {c : C} {row : Option Nat} (h : PieceAt w b o c) (hg : w.grownBy w' row) (hne : ∀ g, row = some g → g ≠ b) : PieceAt w' b o c := by
  have hn : some b ≠ row := fun e => hne b e.symm rfl
  exact ⟨hg.cell h.1 hn, hg.cell h.2.1 hn, hg.cell h.2.2 hn⟩

/-- A row of bytes lies in no box of a piece. -/
theorem OwnB.ne {w : World} {base : Nat} {v : Value} {s : ByteArray} (h : OwnB w base v s) {b : Nat} {xs : Array Value} {fr : Nat × Nat} (hb : w.heap[b]? = some (.cells xs 38 fr)) : ∀ g, v.ownBlock = some g → g ≠ b := by
  intro g hg hgb
  subst hgb
  rcases h.2 with ⟨h, hn⟩ | ⟨g', cap, cur, h, _, h5, _⟩
  · subst h; simp [Value.ownBlock] at hg
  · subst h
    simp only [Value.ownBlock, Option.some.injEq] at hg
    subst hg
    rw [hb] at h5
    cases h5
theorem box_stays {w w' : World} {row : Option Nat} {o : Obj} (hg : (w.alloc o).grownBy w' row) (hne : ∀ g, row = some g → g ≠ w.heap.size) : w'.heap[w.heap.size]? = some o := by
  rw [hg.block _ (by simp) (fun e => hne _ e.symm rfl)]
  exact heap_alloc_new w o

set_option maxHeartbeats 2000000 in
theorem apply_no (s : ByteArray) (p : Option Addr) (cs : List C) (cap : Nat) (w : World) (hr : RowC w p cs) (hno : ¬ (MayP cs ∧ sumOf fromC cs = s.size)) : Calls Try.prog 15 #[.string s, .slice p cs.length cap] w (ApplyPost s cs w) := by
  have R := Lib.hid hr; clear hr
  by_cases hm : MayP cs
  · have hne : ((sumOf fromC cs) != (s.size : Int)) = true := by
      rw [bne_iff_ne]
      exact fun h => hno ⟨hm, h⟩
    have HM := Lib.hid hm
    have HN := Lib.hid hno
    clear hm hno
    generalize hF : sumOf fromC cs = F at hne
    have HF := Lib.hid hF
    clear hF
    go_enter Try.func15, Try.ntmps15
    go_wp2_with (go_at_call 23; refine (lengths_any _ _ _ _ R.out).mono ?_; rintro e w1 ⟨hb1, ⟨rfl, -⟩ | ⟨-, hno⟩⟩; rotate_left; exact absurd HM.out hno; rw [HF.out]; have B1 := Lib.hid hb1; clear hb1)
    go_ret2
    exact ⟨B1.out, .inr ⟨rfl, HN.out⟩⟩
  · have HM := Lib.hid hm
    have HN := Lib.hid hno
    clear hm hno
    go_enter Try.func15, Try.ntmps15
    go_wp2_with (go_at_call 23; refine (lengths_any _ _ _ _ R.out).mono ?_; rintro e w1 ⟨hb1, ⟨-, hyes⟩ | ⟨rfl, -⟩⟩; exact absurd hyes HM.out; have B1 := Lib.hid hb1; clear hb1)
    go_ret2
    exact ⟨B1.out, .inr ⟨rfl, HN.out⟩⟩

set_option maxHeartbeats 4000000 in
theorem apply_yes (s : ByteArray) (p : Option Addr) (cs : List C) (cap : Nat) (w : World) (hr : RowC w p cs) (hm : MayP cs) (hfs : sumOf fromC cs = s.size) : Calls Try.prog 15 #[.string s, .slice p cs.length cap] w (ApplyPost s cs w) := by
  have R := Lib.hid hr; clear hr
  obtain ⟨i0, hi, hz0, hz1, hz2⟩ := info_parts info5
  have hok := okB_iff.1 hm.1
  have hl : cs.length ≤ 4096 := hok.1
  have hraw := hok.2.1
  have hf4 := hok.2.2.1
  have ht4 := hok.2.2.2
  have hss : s.size ≤ 4096 := by omega
  have ht0 : 0 ≤ sumOf toC cs := sumOf_nonneg fun x hx => to_nonneg (Raw.soft (hraw x hx))
  have HM := Lib.hid hm
  have HFS := Lib.hid hfs
  have HRAW := Lib.hid hraw
  have SZ : Hid (∀ j, (appB s 0 (cs.take j)).size ≤ 4096 ∧ 0 ≤ sumOf fromC (cs.take j) ∧ sumOf fromC (cs.take j) ≤ s.size) := Lib.hid (fun j => by
    have hsoft := soft_all hraw
    have b1 := mem_take_sum hsoft (f := fromC) (fun c hc => from_nonneg hc) j
    have b2 := mem_take_sum hsoft (f := toC) (fun c hc => to_nonneg hc) j
    have e := appB_size (s := s) (cs := cs.take j) (a := 0) (fun x hx => hsoft x (List.mem_of_mem_take hx)) (by omega) (by omega)
    omega)
  obtain ⟨T, hT⟩ := Int.eq_ofNat_of_zero_le ht0
  have HT := Lib.hid hT
  have hT4 : T ≤ 4096 := by omega
  clear hm hok hraw hf4 ht4 ht0 hT hfs
  go_enter Try.func15, Try.ntmps15
  go_wp2_with (first | (go_at_call 23; refine (lengths_any _ _ _ _ R.out).mono ?_; rintro e w1 ⟨hb1, ⟨rfl, -⟩ | ⟨-, hno⟩⟩; rotate_left; exact absurd HM.out hno; rw [HFS.out, HT.out]; have B1 := Lib.hid hb1; clear hb1) | (at_make; refine wpList_make_own _ rfl _ _ 52 rfl w.heap.size 5 i0 (.int .u8 0) 1 Try.underlying52 hi hz0 hz1 .i64 .i64 _ T rfl rfl rfl (by rw [hz2]; omega) (by unfold maxLen; omega) B1.out.size ?_; intro w2 hown2 hgrow2; have B2 := Lib.hid (B1.out.grown hgrow2 B1.out.size (by simp)); have O2 : Hid (OwnB w2 w.heap.size (.slice (some ⟨w1.heap.size, 0, none⟩) 0 T) e0) := Lib.hid hown2; clear hown2 hgrow2))
  go_loopw [9, 10, 31] (fun v a i wr => ∃ j : Nat, j ≤ cs.length ∧ i = .int .i64 j ∧ a = .int .i64 (sumOf fromC (cs.take j)) ∧ Hid (OwnB wr w.heap.size v (appB s 0 (cs.take j))) ∧ Hid (Below w.heap.size w wr)) (fun _ _ i _ => cs.length - (intOf i).toNat)
  case atStart => exact ⟨0, Nat.zero_le _, rfl, rfl, O2, B2⟩
  case round =>
    obtain ⟨j, hj, rfl, rfl, O, B⟩ := hrel
    obtain ⟨hx4, ha0, ha1⟩ := SZ.out j
    by_cases hlt : j < cs.length
    · have hc := List.getElem?_eq_getElem hlt
      generalize cs[j] = c at hc
      have E1 := Lib.hid (sumOf_take_succ (f := fromC) hc)
      have E2 := Lib.hid (appB_take_succ s hc)
      obtain ⟨-, -, ha2⟩ := SZ.out (j + 1)
      rw [E1.out] at ha2
      have hraw := HRAW.out c (List.mem_of_getElem? hc)
      obtain ⟨b, o, rfl, hp⟩ := R.out j c hc
      obtain ⟨c0, c1, c2⟩ := hp.below B.out
      clear hc hp
      generalize sumOf fromC (cs.take j) = A at *
      generalize appB s 0 (cs.take j) = X at *
      obtain ⟨k, n, t⟩ := c
      dsimp only at c0 c1 c2
      have NG : Hid (∀ g, u9.ownBlock = some g → g ≠ wr.heap.size) := Lib.hid (fun g hg => by have := (O.out.lt hg).2; omega)
      have GE : Hid (∀ g, u9.ownBlock = some g → w.heap.size ≤ g) := Lib.hid (fun g hg => (O.out.lt hg).1)
      have HB := Lib.hid B.out.size
      rcases hraw with ⟨hk | hk, h1, h2, h3⟩ | ⟨hk, h1, h2⟩ <;> dsimp only at hk h1 h2 <;> subst hk
      · dsimp only at h3
        have h3' := e0_of h3
        subst h3'
        have ha3 : A + n ≤ s.size := by simpa [fromC] using ha2
        go_wp2_with (first | (at_builtin; refine Lib.wpList_append_own_string _ rfl _ _ 52 9 rfl w.heap.size 5 i0 Try.underlying52 Try.underlying9 hi hz0 hz1 hz2 u9 X.size (Lib.strCells X) rfl (World.ownsRow.alloc O.out _) (s.extract A.toNat (A + n).toNat) rfl (by rw [ByteArray.size_extract]; unfold maxLen; omega) (by rw [ByteArray.size_extract]; omega) (Nat.le_trans HB.out (by simp)) ?_; intro v5 w5 hown5 hgrow5 _; obtain ⟨d0, d1, d2⟩ := (new_piece wr 0 n e0).grown hgrow5 NG.out; simp only [Nat.zero_add] at d0 d1 d2; have O5 := Lib.hid (OwnB.of_append hown5); have B5 := Lib.hid ((B.out.alloc B.out.size _).grown hgrow5 (Nat.le_trans HB.out (by simp)) GE.out); have N5 := Lib.hid (O5.out.ne (box_stays hgrow5 NG.out)); clear hown5 hgrow5) | (at_builtin; refine Lib.wpList_append_own_string _ rfl _ _ 52 9 rfl w.heap.size 5 i0 Try.underlying52 Try.underlying9 hi hz0 hz1 hz2 v5 _ _ rfl O5.out e0 rfl (by rw [ba_append_size, ByteArray.size_extract, e0_size]; unfold maxLen; omega) (by rw [ba_append_size, ByteArray.size_extract, e0_size]; omega) B5.out.size ?_; intro v6 w6 hown6 hgrow6 _; replace d1 := hgrow6.cell d1 (fun e => N5.out _ e.symm rfl); clear d0 d2; have O6 := Lib.hid (OwnB.of_append hown6); have B6 := Lib.hid (B5.out.grown hgrow6 B5.out.size (fun g hg => (O5.out.lt hg).1)); clear hown6 hgrow6))
        go_roundw
        case rel => exact ⟨j + 1, by omega, by go_num, by rw [E1.out]; rfl, by rw [E2.out]; have := O6; rw [e0_right] at this; exact this, B6⟩
        case measure => simp [intOf]; omega
      · dsimp only at h3
        have h3' := e0_of h3
        subst h3'
        have ha3 : A + n ≤ s.size := by simpa [fromC] using ha2
        go_wp2_with (first | (at_builtin; refine Lib.wpList_append_own_string _ rfl _ _ 52 9 rfl w.heap.size 5 i0 Try.underlying52 Try.underlying9 hi hz0 hz1 hz2 u9 X.size (Lib.strCells X) rfl (World.ownsRow.alloc O.out _) e0 rfl (by rw [e0_size]; unfold maxLen; omega) (by rw [e0_size]; omega) (Nat.le_trans HB.out (by simp)) ?_; intro v5 w5 hown5 hgrow5 _; obtain ⟨d0, d1, d2⟩ := (new_piece wr 2 n e0).grown hgrow5 NG.out; simp only [Nat.zero_add] at d0 d1 d2; have O5 := Lib.hid (OwnB.of_append hown5); have B5 := Lib.hid ((B.out.alloc B.out.size _).grown hgrow5 (Nat.le_trans HB.out (by simp)) GE.out); have N5 := Lib.hid (O5.out.ne (box_stays hgrow5 NG.out)); clear hown5 hgrow5))
        go_roundw
        case rel => exact ⟨j + 1, by omega, by go_num, by rw [E1.out]; rfl, by rw [E2.out]; exact O5, B5⟩
        case measure => simp [intOf]; omega
      · subst h1
        go_wp2_with (first | (at_builtin; refine Lib.wpList_append_own_string _ rfl _ _ 52 9 rfl w.heap.size 5 i0 Try.underlying52 Try.underlying9 hi hz0 hz1 hz2 u9 X.size (Lib.strCells X) rfl (World.ownsRow.alloc O.out _) t rfl (by unfold maxLen; omega) (by omega) (Nat.le_trans HB.out (by simp)) ?_; intro v5 w5 hown5 hgrow5 _; obtain ⟨d0, d1, d2⟩ := (new_piece wr 1 0 t).grown hgrow5 NG.out; simp only [Nat.zero_add] at d0 d1 d2; have O5 := Lib.hid (OwnB.of_append hown5); have B5 := Lib.hid ((B.out.alloc B.out.size _).grown hgrow5 (Nat.le_trans HB.out (by simp)) GE.out); have N5 := Lib.hid (O5.out.ne (box_stays hgrow5 NG.out)); clear hown5 hgrow5))
        go_roundw
        case rel => exact ⟨j + 1, by omega, by go_num, by rw [E1.out]; simp [fromC], by rw [E2.out]; exact O5, B5⟩
        case measure => simp [intOf]; omega
    · have hjj : cs.take j = cs := List.take_of_length_le (by omega)
      have hO := O.out
      rw [hjj] at hO
      rcases hO.form with ⟨hv, hs⟩ | ⟨g, cap3, hv⟩
      · subst hv
        have hcv := run_convert_bytes_nil (P := Try.prog) wr 52 5 Try.underlying52 Try.underlying5 0 0 9 Try.underlying9
        have HS := Lib.hid hs
        clear hs hO hjj O hx4
        go_wp2
        go_ret2
        exact ⟨B.out, .inl ⟨by rw [HS.out]; rfl, HM.out, HFS.out⟩⟩
      · subst hv
        have hcv := Lib.run_convert_whole (P := Try.prog) wr 52 5 9 Try.underlying52 Try.underlying5 Try.underlying9 g 0 _ hO.bytes cap3
        generalize hXs : appB s 0 cs = X at *
        have HXS := Lib.hid hXs
        clear hO hjj O hx4 hXs
        go_wp2
        go_ret2
        exact ⟨B.out, .inl ⟨by rw [HXS.out]; rfl, HM.out, HFS.out⟩⟩

theorem apply_any (s : ByteArray) (p : Option Addr) (cs : List C) (cap : Nat) (w : World) (hr : RowC w p cs) : Calls Try.prog 15 #[.string s, .slice p cs.length cap] w (ApplyPost s cs w) := by
  by_cases h : MayP cs ∧ sumOf fromC cs = s.size
  · exact apply_yes s p cs cap w hr h.1 h.2
  · exact apply_no s p cs cap w hr h

end Go.Proofs.Ytmlibmleamiljaa
