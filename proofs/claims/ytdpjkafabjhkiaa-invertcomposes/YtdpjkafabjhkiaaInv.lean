/-
  The walks of turn and Invert. Conditions: as the theorems' premises say.
-/
import Derived.Test.YtdpjkafabjhkiaaInvM
import Derived.Test.YtdpjkafabjhkiaaRd1
import Derived.Deep.RegionHeld3
namespace Go.Proofs.Ytdpjkafabjhkiaa
open Go.RowKit

theorem two_boxes (w : World) (x y : Obj) : Below w.heap.size w ((w.alloc x).alloc y) := ((Below.refl _ _).alloc (Nat.le_refl _) _).alloc (by simp) _

set_option maxHeartbeats 400000 in
theorem turn_keep_w (n : Int) (t x : ByteArray) (w : World) : Calls Try.prog 19 #[.agg #[.int .i64 0, .int .i64 n, .string t], .string x] w fun e w' => e = .returned (.agg #[.int .i64 0, .int .i64 n, .string t]) ∧ Below w.heap.size w w' := by
  have HB := Lib.hid (two_boxes w)
  go_enter Try.func19, Try.ntmps19
  go_wp2
  (try simp only [Exit.inBlock, Exit.then])
  refine bodyPost_ret (v := .agg #[.int .i64 0, .int .i64 n, .string t]) (by rw [results_cell1 rfl]; go_simp) rfl ⟨rfl, HB.out _ _⟩
set_option maxHeartbeats 400000 in
theorem turn_put_w (n : Int) (t x : ByteArray) (w : World) : Calls Try.prog 19 #[.agg #[.int .i64 1, .int .i64 n, .string t], .string x] w fun e w' => e = .returned (.agg #[.int .i64 2, .int .i64 t.size, .string ⟨#[]⟩]) ∧ Below w.heap.size w w' := by
  have HB := Lib.hid (two_boxes w)
  go_enter Try.func19, Try.ntmps19
  go_wp2
  (try simp only [Exit.inBlock, Exit.then])
  refine bodyPost_ret (v := .agg #[.int .i64 2, .int .i64 t.size, .string ⟨#[]⟩]) (by rw [results_cell1 rfl]; go_simp) rfl ⟨rfl, HB.out _ _⟩
set_option maxHeartbeats 400000 in
theorem turn_cut_w (n : Int) (t x : ByteArray) (w : World) : Calls Try.prog 19 #[.agg #[.int .i64 2, .int .i64 n, .string t], .string x] w fun e w' => e = .returned (.agg #[.int .i64 1, .int .i64 0, .string x]) ∧ Below w.heap.size w w' := by
  have HB := Lib.hid (two_boxes w)
  go_enter Try.func19, Try.ntmps19
  go_wp2
  (try simp only [Exit.inBlock, Exit.then])
  refine bodyPost_ret (v := .agg #[.int .i64 1, .int .i64 0, .string x]) (by rw [results_cell1 rfl]; go_simp) rfl ⟨rfl, HB.out _ _⟩

/-- Add, one piece further. -/
theorem add_next {I : List C} (hr : ∀ c ∈ I, c.Raw) (hl : I.length ≤ 4096) {j : Nat} {c : C} (h : I[j]? = some c) (base : Nat) (v : Value) (w : World) (ho : Own w base v (normOf (I.take j))) (hb : base ≤ w.heap.size) :
    Calls Try.prog 18 #[v, c.val] w (AddPost base v (normOf (I.take (j + 1))) w) := by
  have hc := hr c (List.mem_of_getElem? h)
  rw [normOf_take_succ h]
  have h1 := normOf_length (I.take j)
  have h2 : (I.take j).length ≤ 4096 := by rw [List.length_take]; omega
  exact add_any base c (fit_raw hc) (Soft.sz0 (Raw.soft hc)) _ (by omega) (fit_norm (raw_take hr j) h2) v w ho hb
theorem radd_next {I : List C} (hr : ∀ c ∈ I, c.Raw) (hl : I.length ≤ 4096) {j : Nat} {c : C} (h : I[j]? = some c) (base : Nat) (v : Value) (w : World) (ho : Own w base v (normOf (I.take j))) (hb : base ≤ w.heap.size) :
    Calls Try.prog 21 #[v, c.val] w (AddPost base v (normOf (I.take (j + 1))) w) := by
  have hc := hr c (List.mem_of_getElem? h)
  rw [normOf_take_succ h]
  have h1 := normOf_length (I.take j)
  have h2 : (I.take j).length ≤ 4096 := by rw [List.length_take]; omega
  exact radd_any base c (fit_raw hc) (Raw.soft hc) _ (by omega) (fit_norm (raw_take hr j) h2) v w ho hb

/-- What Invert answers. -/
def InvPost (s : ByteArray) (cs : List C) (w : World) (e : Ending) (w' : World) : Prop :=
  Below w.heap.size w w' ∧ ((Does s cs ∧ ∃ v, e = .returned (.tuple #[v, .int .i64 0]) ∧ Own w' w.heap.size v (normOf (invL s 0 cs))) ∨ (¬ Does s cs ∧ e = .returned (.tuple #[.slice none 0 0, .int .i64 700])))

set_option maxHeartbeats 1000000 in
theorem invert_no (s : ByteArray) (p : Option Addr) (cs : List C) (cap : Nat) (w : World) (hr : RowC w p cs) (hno : ¬ Does s cs) : Calls Try.prog 7 #[.string s, .slice p cs.length cap] w (InvPost s cs w) := by
  have R := Lib.hid hr; have HN := Lib.hid hno
  clear hr hno
  go_enter Try.func7, Try.ntmps7
  go_wp2_with fail
  refine (apply_noL s _ cs _ _ rfl _ R.out HN.out).mono ?_
  rintro e w1 ⟨rfl, hb1⟩
  have B1 := Lib.hid hb1; clear hb1
  go_wp2_with fail
  go_ret2
  exact ⟨B1.out, .inr ⟨HN.out, rfl⟩⟩

set_option maxHeartbeats 4000000 in
theorem invert_yes (s : ByteArray) (p : Option Addr) (cs : List C) (cap : Nat) (w : World) (hr : RowC w p cs) (hD : Does s cs) : Calls Try.prog 7 #[.string s, .slice p cs.length cap] w (InvPost s cs w) := by
  obtain ⟨i0, hi, hz0, hz1, hz2⟩ := info_parts info39
  have R := Lib.hid hr
  have hok := okB_iff.1 hD.1.1
  have hl : cs.length ≤ 4096 := hok.1
  have hraw := hok.2.1
  have hsz : s.size ≤ 4096 := by have := hok.2.2.1; have := hD.2; omega
  have HRAW := Lib.hid hraw
  have SZ : Hid (∀ j, 0 ≤ sumOf fromC (cs.take j) ∧ sumOf fromC (cs.take j) ≤ s.size) := Lib.hid (fun j => by
    have b1 := mem_take_sum (soft_all hraw) (f := fromC) (fun c hc => from_nonneg hc) j
    have := hD.2
    omega)
  have IRAW := Lib.hid (okB_iff.1 (inv_raw hD)).2.1
  have ILEN : Hid ((invL s 0 cs).length = cs.length) := Lib.hid (inv_length s 0 cs)
  have IGET := Lib.hid (fun j c h => inv_get s cs 0 j c h)
  have HD := Lib.hid hD
  generalize hX : appB s 0 cs = X
  have HX := Lib.hid hX
  generalize hI : invL s 0 cs = I at IRAW ILEN IGET
  have HI := Lib.hid hI
  clear hr hD hok hraw hX hI
  go_enter Try.func7, Try.ntmps7
  go_wp2_with (first | (go_at_call 14; refine (apply_yesL s _ cs _ _ rfl _ R.out HD.out.1 HD.out.2 X HX.out).mono ?_; rintro e w1 ⟨rfl, hb1⟩; have B1 := Lib.hid hb1; clear hb1) | (at_make; refine wpList_make_own _ rfl _ _ 22 rfl w.heap.size 40 i0 (.agg #[.int .i64 0, .int .i64 0, .string ⟨#[]⟩]) 3 Try.underlying22 hi hz0 hz1 .i64 .i64 _ cs.length rfl rfl rfl (by rw [hz2]; omega) (by unfold maxLen; omega) B1.out.size ?_; intro w2 hown2 hgrow2; have B2 := Lib.hid (B1.out.grown hgrow2 B1.out.size (by simp)); have O2 : Hid (Own w2 w.heap.size (.slice (some ⟨w1.heap.size, 0, none⟩) 0 cs.length) (normOf (I.take 0))) := Lib.hid hown2; clear hown2 hgrow2))
  go_loopw [8, 9, 25] (fun v a i wr => ∃ j : Nat, j ≤ cs.length ∧ i = .int .i64 j ∧ a = .int .i64 (sumOf fromC (cs.take j)) ∧ Hid (Own wr w.heap.size v (normOf (I.take j))) ∧ Hid (Below w.heap.size w wr)) (fun _ _ i _ => cs.length - (intOf i).toNat)
  case atStart => exact ⟨0, Nat.zero_le _, rfl, rfl, O2, B2⟩
  case round =>
    obtain ⟨j, hj, rfl, rfl, O, B⟩ := hrel
    obtain ⟨ha0, ha1⟩ := SZ.out j
    by_cases hlt : j < cs.length
    · have hc := List.getElem?_eq_getElem hlt
      generalize cs[j] = c at hc
      have E1 := Lib.hid (sumOf_take_succ (f := fromC) hc)
      obtain ⟨-, ha2⟩ := SZ.out (j + 1)
      rw [E1.out] at ha2
      have hg := IGET.out j c hc
      rw [Int.zero_add] at hg
      have hraw := HRAW.out c (List.mem_of_getElem? hc)
      obtain ⟨b, o, rfl, hp⟩ := R.out j c hc
      obtain ⟨c0, c1, c2⟩ := hp.below B.out
      clear hc hp
      generalize sumOf fromC (cs.take j) = A at *
      obtain ⟨k, n, t⟩ := c
      dsimp only at c0 c1 c2
      rcases hraw with ⟨hk | hk, h1, h2, h3⟩ | ⟨hk, h1, h2⟩ <;> dsimp only at hk h1 h2 <;> subst hk
      · dsimp only at h3
        have ha3 : A + n ≤ s.size := by simpa [fromC] using ha2
        rw [turn_keep] at hg
        obtain ⟨a, rfl⟩ := Int.eq_ofNat_of_zero_le ha0
        obtain ⟨m, hm⟩ := Int.eq_ofNat_of_zero_le (a := (a : Int) + n) (by omega)
        have hw : IntKind.i64.wrap ((a : Int) + n) = (m : Int) := by rw [hm]; exact IntWalk.i64_in _ (by omega)
        have i1 : (a : Int) ≤ (m : Int) := by omega
        have i2 : (m : Int) ≤ (s.size : Int) := by omega
        have i3 : a ≤ m := by omega
        have i4 : m ≤ s.size := by omega
        have i5 : (0 : Int) ≤ (a : Int) := by omega
        have i6 : (0 : Int) ≤ (m : Int) := by omega
        have HM := Lib.hid hm
        have GET := Lib.hid hg
        clear hg ha2 ha3 hm
        go_wp2_with fail
        have BA := (Below.refl wr.heap.size wr).alloc (Nat.le_refl _) (.cells #[.int .i64 0, .int .i64 n, .string t] 40)
        have X3 := Lib.hid (new_piece wr 0 n t)
        have O3 := Lib.hid (O.out.below BA)
        have B3 := Lib.hid (B.out.trans (BA.mono B.out.size))
        have N3 : Hid (u8.ownBlock ≠ some wr.heap.size) := Lib.hid (fun e => absurd (O.out.lt e).2 (Nat.lt_irrefl _))
        clear BA c0 c1 c2 O B
        generalize wr.alloc (.cells #[.int .i64 0, .int .i64 n, .string t] 40) = w3 at X3 O3 B3 ⊢
        generalize wr.heap.size = D at X3 N3 ⊢
        have CALL : Hid (∀ W, Below w3.heap.size w3 W → Calls Try.prog 18 #[u8, .agg #[.int .i64 0, .int .i64 n, .string t]] W fun e w5 => ∃ v5, e = .returned v5 ∧ Hid (Own w5 w.heap.size v5 (normOf (I.take (j + 1)))) ∧ Hid (Below w.heap.size w w5) ∧ Hid (PieceAt w5 D 0 ⟨0, n, t⟩)) := Lib.hid (fun W hW => by
          have ho := O3.out.below hW
          have hb := B3.out.trans (hW.mono B3.out.size)
          refine (add_next IRAW.out (by rw [ILEN.out]; exact hl) GET.out w.heap.size u8 W ho hb.size).mono ?_
          intro e w5 hp
          have hb5 := hp.below ho hb (Nat.le_refl _) hb.size
          obtain ⟨v5, rfl, ho5, hg5, -⟩ := hp
          exact ⟨v5, rfl, Lib.hid ho5, Lib.hid hb5, Lib.hid ((X3.out.below hW).grown hg5 (fun g e1 e2 => N3.out (e2 ▸ e1)))⟩)
        obtain ⟨x0, x1, x2⟩ := X3.out
        dsimp only at x0 x1 x2
        simp only [Nat.zero_add] at x0 x1 x2
        go_region_held3 (fun W => W.cell? ⟨D, 0, none⟩ = some (.int .i64 0) ∧ W.cell? ⟨D, 1, none⟩ = some (.int .i64 n) ∧ W.cell? ⟨D, 2, none⟩ = some (.string t)) (first | go_keep | exact ⟨k30, k31, k32⟩ | exact ⟨k20, k21, k22⟩ | fail)
          (first | (have HH := hW4.out; go_at_call 18; refine (CALL.out _ HH).mono ?_; rintro e w5 ⟨v5, rfl, O5, B5, H5⟩; obtain ⟨k30, k31, k32⟩ := H5.out; simp only [Nat.zero_add] at k30 k31 k32) | (go_at_call 19; refine (turn_keep_w _ _ _ _).mono ?_; rintro e w4 ⟨rfl, hb4⟩; have hW4 : Hid (Below w3.heap.size w3 w4) := Lib.hid ((Below.refl w3.heap.size w3).drew.trans hb4); clear hb4; obtain ⟨k20, k21, k22⟩ := X3.out.below hW4.out; simp only [Nat.zero_add] at k20 k21 k22))
        obtain ⟨y0, y1, y2⟩ := H5.out
        simp only [Nat.zero_add] at y0 y1 y2
        go_wp2_with fail
        go_roundw
        case rel => exact ⟨j + 1, by omega, by go_num, by rw [E1.out]; show _ = Value.int .i64 ((a : Int) + n); rw [HM.out], O5, B5⟩
        case measure => simp [intOf]; omega
      · dsimp only at h3
        have ha3 : A + n ≤ s.size := by simpa [fromC] using ha2
        rw [turn_cut] at hg
        obtain ⟨a, rfl⟩ := Int.eq_ofNat_of_zero_le ha0
        obtain ⟨m, hm⟩ := Int.eq_ofNat_of_zero_le (a := (a : Int) + n) (by omega)
        have hw : IntKind.i64.wrap ((a : Int) + n) = (m : Int) := by rw [hm]; exact IntWalk.i64_in _ (by omega)
        have i1 : (a : Int) ≤ (m : Int) := by omega
        have i2 : (m : Int) ≤ (s.size : Int) := by omega
        have i3 : a ≤ m := by omega
        have i4 : m ≤ s.size := by omega
        have i5 : (0 : Int) ≤ (a : Int) := by omega
        have i6 : (0 : Int) ≤ (m : Int) := by omega
        have HM := Lib.hid hm
        rw [hm, Int.toNat_natCast, Int.toNat_natCast] at hg
        have GET := Lib.hid hg
        clear hg ha2 ha3 hm
        go_wp2_with fail
        have BA := (Below.refl wr.heap.size wr).alloc (Nat.le_refl _) (.cells #[.int .i64 2, .int .i64 n, .string t] 40)
        have X3 := Lib.hid (new_piece wr 2 n t)
        have O3 := Lib.hid (O.out.below BA)
        have B3 := Lib.hid (B.out.trans (BA.mono B.out.size))
        have N3 : Hid (u8.ownBlock ≠ some wr.heap.size) := Lib.hid (fun e => absurd (O.out.lt e).2 (Nat.lt_irrefl _))
        clear BA c0 c1 c2 O B
        generalize wr.alloc (.cells #[.int .i64 2, .int .i64 n, .string t] 40) = w3 at X3 O3 B3 ⊢
        generalize wr.heap.size = D at X3 N3 ⊢
        have CALL : Hid (∀ W, Below w3.heap.size w3 W → Calls Try.prog 18 #[u8, .agg #[.int .i64 1, .int .i64 0, .string (s.extract a m)]] W fun e w5 => ∃ v5, e = .returned v5 ∧ Hid (Own w5 w.heap.size v5 (normOf (I.take (j + 1)))) ∧ Hid (Below w.heap.size w w5) ∧ Hid (PieceAt w5 D 0 ⟨2, n, t⟩)) := Lib.hid (fun W hW => by
          have ho := O3.out.below hW
          have hb := B3.out.trans (hW.mono B3.out.size)
          refine (add_next IRAW.out (by rw [ILEN.out]; exact hl) GET.out w.heap.size u8 W ho hb.size).mono ?_
          intro e w5 hp
          have hb5 := hp.below ho hb (Nat.le_refl _) hb.size
          obtain ⟨v5, rfl, ho5, hg5, -⟩ := hp
          exact ⟨v5, rfl, Lib.hid ho5, Lib.hid hb5, Lib.hid ((X3.out.below hW).grown hg5 (fun g e1 e2 => N3.out (e2 ▸ e1)))⟩)
        obtain ⟨x0, x1, x2⟩ := X3.out
        dsimp only at x0 x1 x2
        simp only [Nat.zero_add] at x0 x1 x2
        go_region_held3 (fun W => W.cell? ⟨D, 0, none⟩ = some (.int .i64 2) ∧ W.cell? ⟨D, 1, none⟩ = some (.int .i64 n) ∧ W.cell? ⟨D, 2, none⟩ = some (.string t)) (first | go_keep | exact ⟨k30, k31, k32⟩ | exact ⟨k20, k21, k22⟩ | fail)
          (first | (have HH := hW4.out; go_at_call 18; refine (CALL.out _ HH).mono ?_; rintro e w5 ⟨v5, rfl, O5, B5, H5⟩; obtain ⟨k30, k31, k32⟩ := H5.out; simp only [Nat.zero_add] at k30 k31 k32) | (go_at_call 19; refine (turn_cut_w _ _ _ _).mono ?_; rintro e w4 ⟨rfl, hb4⟩; have hW4 : Hid (Below w3.heap.size w3 w4) := Lib.hid ((Below.refl w3.heap.size w3).drew.trans hb4); clear hb4; obtain ⟨k20, k21, k22⟩ := X3.out.below hW4.out; simp only [Nat.zero_add] at k20 k21 k22))
        obtain ⟨y0, y1, y2⟩ := H5.out
        simp only [Nat.zero_add] at y0 y1 y2
        go_wp2_with fail
        go_roundw
        case rel => exact ⟨j + 1, by omega, by go_num, by rw [E1.out]; show _ = Value.int .i64 ((a : Int) + n); rw [HM.out], O5, B5⟩
        case measure => simp [intOf]; omega
      · subst h1
        rw [turn_put] at hg
        obtain ⟨a, rfl⟩ := Int.eq_ofNat_of_zero_le ha0
        have hw : IntKind.i64.wrap (a : Int) = (a : Int) := IntWalk.i64_in _ (by omega)
        have i1 : (a : Int) ≤ (s.size : Int) := by omega
        have i2 : a ≤ s.size := by omega
        have i3 : (0 : Int) ≤ (a : Int) := by omega
        have GET := Lib.hid hg
        clear hg ha2
        go_wp2_with fail
        have BA := (Below.refl wr.heap.size wr).alloc (Nat.le_refl _) (.cells #[.int .i64 1, .int .i64 0, .string t] 40)
        have X3 := Lib.hid (new_piece wr 1 0 t)
        have O3 := Lib.hid (O.out.below BA)
        have B3 := Lib.hid (B.out.trans (BA.mono B.out.size))
        have N3 : Hid (u8.ownBlock ≠ some wr.heap.size) := Lib.hid (fun e => absurd (O.out.lt e).2 (Nat.lt_irrefl _))
        clear BA c0 c1 c2 O B
        generalize wr.alloc (.cells #[.int .i64 1, .int .i64 0, .string t] 40) = w3 at X3 O3 B3 ⊢
        generalize wr.heap.size = D at X3 N3 ⊢
        have CALL : Hid (∀ W, Below w3.heap.size w3 W → Calls Try.prog 18 #[u8, .agg #[.int .i64 2, .int .i64 t.size, .string ⟨#[]⟩]] W fun e w5 => ∃ v5, e = .returned v5 ∧ Hid (Own w5 w.heap.size v5 (normOf (I.take (j + 1)))) ∧ Hid (Below w.heap.size w w5) ∧ Hid (PieceAt w5 D 0 ⟨1, 0, t⟩)) := Lib.hid (fun W hW => by
          have ho := O3.out.below hW
          have hb := B3.out.trans (hW.mono B3.out.size)
          refine (add_next IRAW.out (by rw [ILEN.out]; exact hl) GET.out w.heap.size u8 W ho hb.size).mono ?_
          intro e w5 hp
          have hb5 := hp.below ho hb (Nat.le_refl _) hb.size
          obtain ⟨v5, rfl, ho5, hg5, -⟩ := hp
          exact ⟨v5, rfl, Lib.hid ho5, Lib.hid hb5, Lib.hid ((X3.out.below hW).grown hg5 (fun g e1 e2 => N3.out (e2 ▸ e1)))⟩)
        obtain ⟨x0, x1, x2⟩ := X3.out
        dsimp only at x0 x1 x2
        simp only [Nat.zero_add] at x0 x1 x2
        go_region_held3 (fun W => W.cell? ⟨D, 0, none⟩ = some (.int .i64 1) ∧ W.cell? ⟨D, 1, none⟩ = some (.int .i64 0) ∧ W.cell? ⟨D, 2, none⟩ = some (.string t)) (first | go_keep | exact ⟨k30, k31, k32⟩ | exact ⟨k20, k21, k22⟩ | fail)
          (first | (have HH := hW4.out; go_at_call 18; refine (CALL.out _ HH).mono ?_; rintro e w5 ⟨v5, rfl, O5, B5, H5⟩; obtain ⟨k30, k31, k32⟩ := H5.out; simp only [Nat.zero_add] at k30 k31 k32) | (go_at_call 19; refine (turn_put_w _ _ _ _).mono ?_; rintro e w4 ⟨rfl, hb4⟩; have hW4 : Hid (Below w3.heap.size w3 w4) := Lib.hid ((Below.refl w3.heap.size w3).drew.trans hb4); clear hb4; obtain ⟨k20, k21, k22⟩ := X3.out.below hW4.out; simp only [Nat.zero_add] at k20 k21 k22))
        obtain ⟨y0, y1, y2⟩ := H5.out
        simp only [Nat.zero_add] at y0 y1 y2
        go_wp2_with fail
        go_roundw
        case rel => exact ⟨j + 1, by omega, by go_num, by rw [E1.out]; simp [fromC], O5, B5⟩
        case measure => simp [intOf]; omega
    · have hjj : I.take j = I := List.take_of_length_le (by have := ILEN.out; omega)
      have hO := O.out
      rw [hjj] at hO
      have O' := Lib.hid hO
      clear hO hjj O
      go_wp2_with fail
      go_ret2
      exact ⟨B.out, .inl ⟨HD.out, _, rfl, by rw [HI.out]; exact O'.out⟩⟩

end Go.Proofs.Ytdpjkafabjhkiaa
