/-
  The walk of list, and all that call each other. Conditions: as each theorem's premises say.
-/
import Derived.Test.YtjmfjlffcopnnaaGreatDoorPF08
namespace Go.Proofs.YtjmfjlffcopnnaaGreatDoor
open Go.RowKit

theorem lst_nil (k e c d st : Nat) : lstF k e c d st [] = (lackF e .nil, e, []) := by cases k <;> rw [lstF.eq_def]
theorem lst_is (k e c d st : Nat) (t : Tk) (r : List Tk) : lstF (k + 1) e c d st (t :: r) =
    (if t.k == c then (if st == 2 then lackF t.fr .nil else .nil, Tk.to t, r)
      else if t.k == 5 && st == 1 then lstF k e c d 2 r
      else if starts t (d + 1) then
        (if st == 1 then lackF t.fr ((elmF k e c d (t :: r)).1.app (lstF k e c d 1 (elmF k e c d (t :: r)).2).1) else (elmF k e c d (t :: r)).1.app (lstF k e c d 1 (elmF k e c d (t :: r)).2).1, (lstF k e c d 1 (elmF k e c d (t :: r)).2).2)
      else (.cons 7 t.fr (Tk.to t) .nil (lstF k e c d st r).1, (lstF k e c d st r).2)) := by
  rw [lstF.eq_def]
/-- The parser one further. -/
theorem step_i {W : World} {base pb i en : Nat} {ts : List Tk} {ns : List Nd} (h : PSx W base pb ts i en ns) :
    PSx (W.setCell ⟨pb, 1, none⟩ (.int .i64 ((i : Int) + 1))) base pb ts (i + 1) en ns ∧ Below base W (W.setCell ⟨pb, 1, none⟩ (.int .i64 ((i : Int) + 1))) ∧ Keeps W (W.setCell ⟨pb, 1, none⟩ (.int .i64 ((i : Int) + 1))) := by
  obtain ⟨tv, nv, vs, h⟩ := h
  refine ⟨?_, h.setI_below _ 1, keeps_setP h.obj (by decide) _⟩
  rw [dplus]
  exact ⟨tv, nv, vs, h.setI (i + 1)⟩
theorem PSx.cells {w : World} {base pb i en : Nat} {ts : List Tk} {ns : List Nd} (h : PSx w base pb ts i en ns) : w.cell? ⟨pb, 1, none⟩ = some (.int .i64 i) ∧ w.cell? ⟨pb, 2, none⟩ = some (.int .i64 en) ∧ (∀ j, w.frozen? ⟨pb, j, none⟩ = false) := by
  obtain ⟨tv, nv, vs, h⟩ := h
  obtain ⟨c0, c1, c2, c3, c4, c5, cf, hpb⟩ := h.cells
  exact ⟨c1, c2, cf⟩
/-- What the list's loop holds. -/
structure LI (w : World) (base pb : Nat) (ts : List Tk) (en c d : Nat) (ns : List Nd) (id : Nat) (n : Nat) (left0 : List Tk) (tot : Fo × Nat × List Tk) (wr : World) (k st i : Nat) (left : List Tk) (F : Fo) : Prop where
  le : i ≤ ts.length
  drop : ts.drop i = left
  ps : PSx wr base pb ts i en (gro ns id F)
  eq1 : F.app (lstF k en c d st left).1 = tot.1
  eq2 : (lstF k en c d st left).2 = tot.2
  fuel : 4 * left.length + 3 ≤ k
  fuel2 : k ≤ n
  srt : ∃ lo, Srt en lo left
  room : F.size + 6 * left.length ≤ 6 * left0.length
  below : Below base w wr
  keeps : Keeps w wr
def LIx (w : World) (base pb : Nat) (ts : List Tk) (en c d : Nat) (ns : List Nd) (id : Nat) (n : Nat) (left0 : List Tk) (tot : Fo × Nat × List Tk) (v : Value) (wr : World) : Prop :=
  ∃ k st i left F, v = .int .i64 (st : Nat) ∧ LI w base pb ts en c d ns id n left0 tot wr k st i left F

-- rounds
variable {w wr W : World} {base pb : Nat} {ts : List Tk} {en c d : Nat} {ns : List Nd} {id n : Nat} {left0 : List Tk} {tot : Fo × Nat × List Tk} {k st i : Nat} {F : Fo} {t : Tk} {r : List Tk}
theorem LI.pos (L : LI w base pb ts en c d ns id n left0 tot wr k st i (t :: r) F) : ∃ k', k = k' + 1 := ⟨k - 1, by have := L.fuel; omega⟩
theorem LI.comma (L : LI w base pb ts en c d ns id n left0 tot wr (k + 1) 1 i (t :: r) F) (h5 : t.k = 5) (hc : t.k ≠ c) (hps : PSx W base pb ts (i + 1) en (gro ns id F)) (hb : Below base wr W) (hk : Keeps wr W) :
    LI w base pb ts en c d ns id n left0 tot W k 2 (i + 1) r F := by
  obtain ⟨h1, h2, h3⟩ := drop_cons L.drop
  have e : lstF (k + 1) en c d 1 (t :: r) = lstF k en c d 2 r := by
    rw [lst_is, if_neg (by simpa using hc), if_pos (by simp [h5])]
  have f := L.fuel
  rw [List.length_cons] at f
  have g := L.room
  rw [List.length_cons] at g
  exact ⟨h3, h2, hps, by rw [← e]; exact L.eq1, by rw [← e]; exact L.eq2, by omega, by have := L.fuel2; omega, ⟨_, L.srt.choose_spec.2.2⟩, by omega, L.below.trans hb, L.keeps.trans hk⟩
theorem LI.stray (L : LI w base pb ts en c d ns id n left0 tot wr (k + 1) st i (t :: r) F) (h5 : ¬ (t.k = 5 ∧ st = 1)) (hc : t.k ≠ c) (hs : starts t (d + 1) = false) (hps : PSx W base pb ts (i + 1) en (gro ns id (F.app (.cons 7 t.fr (Tk.to t) .nil .nil)))) (hb : Below base wr W) (hk : Keeps wr W) :
    LI w base pb ts en c d ns id n left0 tot W k st (i + 1) r (F.app (.cons 7 t.fr (Tk.to t) .nil .nil)) := by
  obtain ⟨h1, h2, h3⟩ := drop_cons L.drop
  have e : lstF (k + 1) en c d st (t :: r) = (.cons 7 t.fr (Tk.to t) .nil (lstF k en c d st r).1, (lstF k en c d st r).2) := by
    rw [lst_is, if_neg (by simpa using hc), if_neg (by simpa using h5), if_neg (by simp [hs])]
  have f := L.fuel
  rw [List.length_cons] at f
  have g := L.room
  rw [List.length_cons] at g
  refine ⟨h3, h2, hps, ?_, ?_, by omega, by have := L.fuel2; omega, ⟨_, L.srt.choose_spec.2.2⟩, ?_, L.below.trans hb, L.keeps.trans hk⟩
  · rw [← L.eq1, e, Fo.app_app]; rfl
  · rw [← L.eq2, e]
  · rw [Fo.size_app]; simp only [Fo.size]; omega
/-- What an element adds. -/
def elF (st : Nat) (t : Tk) (X : Fo) : Fo := if st == 1 then lackF t.fr X else X
theorem LI.elem (L : LI w base pb ts en c d ns id n left0 tot wr (k + 1) st i (t :: r) F) (h5 : ¬ (t.k = 5 ∧ st = 1)) (hc : t.k ≠ c) (hs : starts t (d + 1) = true) {j : Nat} (hj : j ≤ ts.length) (hdj : ts.drop j = (elmF k en c d (t :: r)).2)
    (hps : PSx W base pb ts j en (gro ns id (F.app (elF st t (elmF k en c d (t :: r)).1)))) (hb : Below base wr W) (hk : Keeps wr W) :
    LI w base pb ts en c d ns id n left0 tot W k 1 j (elmF k en c d (t :: r)).2 (F.app (elF st t (elmF k en c d (t :: r)).1)) ∧ i + 1 ≤ j := by
  obtain ⟨lo, hsr⟩ := L.srt
  have ho := (all_ok k).2.2.1 en c d lo t r hsr
  obtain ⟨h1, h2, h3⟩ := drop_cons L.drop
  have e : lstF (k + 1) en c d st (t :: r) = (elF st t ((elmF k en c d (t :: r)).1.app (lstF k en c d 1 (elmF k en c d (t :: r)).2).1), (lstF k en c d 1 (elmF k en c d (t :: r)).2).2) := by
    rw [lst_is, if_neg (by simpa using hc), if_neg (by simpa using h5), if_pos hs]
    rfl
  have f := L.fuel
  rw [List.length_cons] at f
  have g := L.room
  rw [List.length_cons] at g
  have l1 := congrArg List.length hdj
  have l2 := congrArg List.length h2
  rw [List.length_drop] at l1 l2
  refine ⟨⟨hj, hdj, hps, ?_, ?_, by omega, by have := L.fuel2; omega, ⟨_, ho.1.choose_spec.2⟩, ?_, L.below.trans hb, L.keeps.trans hk⟩, by omega⟩
  · rw [← L.eq1, e, Fo.app_app]
    unfold elF
    split <;> rfl
  · rw [← L.eq2, e]
  · rw [Fo.size_app]
    unfold elF
    split
    · rw [lack_size]; omega
    · omega
theorem LI.none (L : LI w base pb ts en c d ns id n left0 tot wr k st i [] F) : tot = (F.app (lackF en .nil), en, []) := by
  have e1 := L.eq1
  have e2 := L.eq2
  rw [lst_nil] at e1 e2
  rw [show tot = (tot.1, tot.2) from rfl, ← e1, ← e2]
theorem LI.close (L : LI w base pb ts en c d ns id n left0 tot wr (k + 1) st i (t :: r) F) (hc : t.k = c) : tot = (F.app (if st == 2 then lackF t.fr .nil else .nil), Tk.to t, r) := by
  have e1 := L.eq1
  have e2 := L.eq2
  rw [lst_is, if_pos (by simpa using hc)] at e1 e2
  rw [show tot = (tot.1, tot.2) from rfl, ← e1, ← e2]
theorem meas {X Y : World} {pb i j N : Nat} (h' : X.cell? ⟨pb, 1, none⟩ = some (.int .i64 (j : Nat))) (h : Y.cell? ⟨pb, 1, none⟩ = some (.int .i64 (i : Nat))) (hij : i < j) (hi : i < N) : N - (intOf ((X.cell? ⟨pb, 1, none⟩).getD undef)).toNat < N - (intOf ((Y.cell? ⟨pb, 1, none⟩).getD undef)).toNat := by
  rw [h, h']; simp [intOf]; omega
theorem LIx.of {st' k' i' : Nat} {left' : List Tk} {F' : Fo} {v : Value} (hv : v = .int .i64 (st' : Nat)) (L : LI w base pb ts en c d ns id n left0 tot W k' st' i' left' F') : LIx w base pb ts en c d ns id n left0 tot v W := ⟨k', st', i', left', F', hv, L⟩

set_option maxRecDepth 100000 in
set_option maxHeartbeats 2000000 in
theorem list_step {n : Nat} (hE : ∀ m, m ≤ n → ElmC m) : LstC (n + 1) := by
  intro base pb ts en left0 ns w id m c d hp hr hn hm hk hc hd12
  have E := Lib.hid hE; clear hE
  obtain ⟨tot, htot⟩ : ∃ tot, lstF (n + 1) en c d 0 left0 = tot := ⟨_, rfl⟩
  rw [htot]
  have hroom := hr.2.1
  have h300 := hr.1
  have hidl := (List.getElem?_eq_some_iff.1 hm).1
  have GA := Lib.hid (gro_app ns id hidl)
  have GK := Lib.hid (gro_kids hm hk)
  have START : Hid (LIx w base pb ts en c d ns id (n + 1) left0 tot (.int .i64 0) w) := Lib.hid (by
    obtain ⟨i, hi, hdr, hp⟩ := hp
    refine ⟨n + 1, 0, i, left0, .nil, rfl, hi, hdr, ?_, ?_, ?_, hn, Nat.le_refl _, hr.2.2, ?_, Below.refl _ _, keeps_below (Below.refl _ _)⟩
    · rw [gro_nil]; exact hp
    · rw [htot]; rfl
    · rw [htot]
    · simp only [Fo.size]; omega)
  have HC := Lib.hid hc
  clear hp hr htot hc
  go_enter Tryz.func105, Tryz.ntmps105
  go_wp2_with fail
  go_loopw [8] (fun v wr => LIx w base pb ts en c d ns id (n + 1) left0 tot v wr) (fun _ wr => ts.length - (intOf ((wr.cell? ⟨pb, 1, none⟩).getD undef)).toNat)
  case atStart => exact START.out
  case round =>
    clear START
    obtain ⟨k, st, i, left, F, rfl, L⟩ := hrel
    have LI := Lib.hid L; clear L
    have FR := LI.out.room
    obtain ⟨m1, hm1, hk1⟩ := GK.out F
    have GL := Lib.hid (gro_len ns id F)
    obtain ⟨tv, nv, vs, hps⟩ := LI.out.ps
    have H := Lib.hid hps; clear hps
    have hil := LI.out.le
    have C1 : Hid (wr.cell? ⟨pb, 1, none⟩ = some (.int .i64 i)) := Lib.hid H.out.cells.2.1
    have SQ0 : ((st : Int) == 2) = true ∨ ((st : Int) == 2) = false := by cases ((st : Int) == 2) <;> simp
    cases left with
    | nil =>
      have TOT := Lib.hid LI.out.none
      have DR := Lib.hid LI.out.drop
      simp only [List.length_nil] at FR
      go_wp2_with fail
      refine (next_no H.out (by have := congrArg List.length DR.out; rw [List.length_drop] at this; simp at this; omega) (by omega)).mono ?_
      rintro e w1 ⟨rfl, hb1⟩
      have TT := Lib.hid (see_tok H.out hb1 ⟨0, en, en⟩)
      have H1 := Lib.hid (H.out.below hb1); clear hb1
      obtain ⟨c0, c1, c2, c3, c4, c5, cf, hpb⟩ := H1.out.cells
      go_wp2_with fail
      change Calls Tryz.prog 60 _ (w1.alloc (tkO ⟨0, en, en⟩)) _
      generalize w1.heap.size = b at *
      generalize w1.alloc (tkO ⟨0, en, en⟩) = X at TT ⊢
      clear c0 c1 c2 c3 c4 c5 cf
      refine (lack_any TT.out.1 (by rw [GL.out]; omega) id m1 hm1 (by omega) en).mono ?_
      rintro e w2 ⟨rfl, hp2, hb2, hk2⟩
      rw [GA.out] at hp2
      have H2 := Lib.hid hp2; have B2 := Lib.hid (TT.out.2.1.trans hb2); have K2 := Lib.hid (TT.out.2.2.1.trans hk2); clear hp2 hb2 hk2
      obtain ⟨c1, c2, cf⟩ := H2.out.cells
      go_wp2_with fail
      refine (close_any id (F.app (lackF en .nil)) H2.out m hm hk (by rw [Fo.size_app, lack_size]; simp only [Fo.size]; omega) en).mono ?_
      rintro e w3 ⟨rfl, hp3, hb3, hk3⟩
      have H3 := Lib.hid hp3; have B3 := Lib.hid (B2.out.trans hb3); have K3 := Lib.hid (K2.out.trans hk3); clear hp3 hb3 hk3
      go_wp2_with fail
      ((try simp only [Exit.inBlock, Exit.then]); refine bodyPost_ret (results_none rfl _ _ _) rfl ?_)
      have ht := TOT.out
      subst ht
      exact ⟨rfl, ⟨i, hil, DR.out, H3.out⟩, LI.out.below.trans B3.out, LI.out.keeps.trans K3.out⟩
    | cons t r =>
      obtain ⟨k, rfl⟩ := LI.out.pos
      obtain ⟨ht, hd1, hlt⟩ := drop_cons LI.out.drop
      have HT := Lib.hid ht; have D1 := Lib.hid hd1; clear ht hd1
      simp only [List.length_cons] at FR
      by_cases hc : t.k = c
      · have TOT := Lib.hid (LI.out.close hc)
        subst hc
        by_cases h2 : st = 2
        · subst h2
          go_wp2_with fail
          refine (next_yes H.out HT.out).mono ?_
          rintro e w1 ⟨rfl, hb1⟩
          have TT := Lib.hid (see_tok H.out hb1 t); clear hb1
          go_wp2_with fail
          change Calls Tryz.prog 60 _ (w1.alloc (tkO t)) _
          generalize w1.heap.size = b at *
          generalize w1.alloc (tkO t) = X at TT ⊢
          refine (lack_any TT.out.1 (by rw [GL.out]; omega) id m1 hm1 (by omega) t.fr).mono ?_
          rintro e w2 ⟨rfl, hp2, hb2, hk2⟩
          rw [GA.out] at hp2
          have ST := Lib.hid (step_i hp2)
          have BX := Lib.hid (hk2.1 _ _ TT.out.2.2.2)
          have B2 := Lib.hid (TT.out.2.1.trans hb2); have K2 := Lib.hid (TT.out.2.2.1.trans hk2)
          obtain ⟨c1, c2, cf⟩ := hp2.cells
          clear hp2 hb2 hk2
          obtain ⟨y0, y1, y2⟩ := tk_cells (ST.out.2.2.1 _ _ BX.out)
          go_wp2_with fail
          generalize w2.setCell ⟨pb, 1, none⟩ (.int .i64 ((i : Int) + 1)) = w3 at ST y0 y1 y2 ⊢
          refine (close_any id (F.app (lackF t.fr .nil)) ST.out.1 m hm hk (by rw [Fo.size_app, lack_size]; simp only [Fo.size]; omega) (Tk.to t)).mono ?_
          rintro e w4 ⟨rfl, hp3, hb3, hk3⟩
          have H3 := Lib.hid hp3; have B3 := Lib.hid (B2.out.trans (ST.out.2.1.trans hb3)); have K3 := Lib.hid (K2.out.trans (ST.out.2.2.trans hk3)); clear hp3 hb3 hk3
          go_wp2_with fail
          ((try simp only [Exit.inBlock, Exit.then]); refine bodyPost_ret (results_none rfl _ _ _) rfl ?_)
          have ht := TOT.out
          subst ht
          exact ⟨rfl, ⟨i + 1, hlt, D1.out, H3.out⟩, LI.out.below.trans B3.out, LI.out.keeps.trans K3.out⟩
        · have TOT2 : Hid (tot = (F, Tk.to t, r)) := Lib.hid (by rw [TOT.out, if_neg (by simpa using h2), Fo.app_nil])
          have q2 : ((st : Int) == 2) = false := by simp; omega
          clear h2
          go_wp2_with fail
          refine (next_yes H.out HT.out).mono ?_
          rintro e w1 ⟨rfl, hb1⟩
          have TT := Lib.hid (take_tok H.out hb1 t)
          have H1 := Lib.hid (H.out.below hb1); clear hb1
          obtain ⟨c0, c1, c2, c3, c4, c5, cf, hpb⟩ := H1.out.cells
          go_wp2_with fail
          change Calls Tryz.prog 104 _ ((w1.setCell ⟨pb, 1, none⟩ (.int .i64 ((i : Int) + 1))).alloc (tkO t)) _
          generalize (w1.setCell ⟨pb, 1, none⟩ (.int .i64 ((i : Int) + 1))).alloc (tkO t) = X at TT ⊢
          clear c0 c1 c2 c3 c4 c5 cf
          refine (close_any id F TT.out.1 m hm hk (by omega) (Tk.to t)).mono ?_
          rintro e w4 ⟨rfl, hp3, hb3, hk3⟩
          have H3 := Lib.hid hp3; have B3 := Lib.hid (TT.out.2.1.trans hb3); have K3 := Lib.hid (TT.out.2.2.1.trans hk3); clear hp3 hb3 hk3
          go_wp2_with fail
          ((try simp only [Exit.inBlock, Exit.then]); refine bodyPost_ret (results_none rfl _ _ _) rfl ?_)
          have ht := TOT2.out
          subst ht
          exact ⟨rfl, ⟨i + 1, hlt, D1.out, H3.out⟩, LI.out.below.trans B3.out, LI.out.keeps.trans K3.out⟩
      · have qc : ((t.k : Int) == (c : Int)) = false := by simp; omega
        have qc2 : (t.k == c) = false := by simp; omega
        have NC := Lib.hid hc; clear hc
        by_cases h5 : t.k = 5 ∧ st = 1
        · obtain ⟨h5, rfl⟩ := h5
          have q5 : ((t.k : Int) == 5) = true := by simp; omega
          have H5 := Lib.hid h5; clear h5
          go_wp2_with fail
          refine (next_yes H.out HT.out).mono ?_
          rintro e w1 ⟨rfl, hb1⟩
          have TT := Lib.hid (take_tok H.out hb1 t)
          have H1 := Lib.hid (H.out.below hb1); clear hb1
          obtain ⟨c0, c1, c2, c3, c4, c5, cf, hpb⟩ := H1.out.cells
          go_wp2_with fail
          go_roundw
          case rel => exact LIx.of (st' := 2) rfl (LI.out.comma H5.out NC.out TT.out.1 TT.out.2.1 TT.out.2.2.1)
          case measure => exact meas TT.out.1.cells.1 C1.out (by omega) hlt
        · have q5 : ((t.k : Int) == 5) = false ∨ (((t.k : Int) == 5) = true ∧ ((st : Int) == 1) = false) := by
            by_cases h : t.k = 5
            · right; constructor
              · simp; omega
              · simp; omega
            · left; simp; omega
          have H5 := Lib.hid h5; clear h5
          cases hs : starts t (d + 1) with
          | false =>
            have HS := Lib.hid hs; clear hs
            rcases q5 with q5 | ⟨q5, q6⟩
            all_goals
              go_wp2_with fail
              refine (next_yes H.out HT.out).mono ?_
              rintro e w1 ⟨rfl, hb1⟩
              have TT := Lib.hid (see_tok H.out hb1 t); clear hb1
              go_wp2_with (go_at_call 55; change Calls Tryz.prog 55 _ (w1.alloc (tkO t)) _; rw [dplus]; refine (starts_any t (d + 1) _).mono ?_; rintro e w2 ⟨rfl, hb2⟩; rw [HS.out]; have B2 := Lib.hid hb2; clear hb2)
              have P2 : Hid (PSx w2 base pb ts i en (gro ns id F)) := Lib.hid (by obtain ⟨a, b, c, h⟩ := TT.out.1; exact ⟨a, b, c, h.below B2.out⟩)
              refine (stray_any P2.out (by rw [GL.out]; omega) id m1 hm1 (by omega) t HT.out (by omega)).mono ?_
              rintro e w3 ⟨rfl, hp3, hb3, hk3⟩
              rw [GA.out] at hp3
              have H3 := Lib.hid hp3; have B3 := Lib.hid (TT.out.2.1.trans ((B2.out.mono (Nat.le_trans (Nat.le_trans H.out.new (Nat.le_of_lt H.out.cells.2.2.2.2.2.2.2)) TT.out.2.1.size)).trans hb3)); have K3 := Lib.hid (TT.out.2.2.1.trans ((keeps_below B2.out).trans hk3)); clear hp3 hb3 hk3
              go_wp2_with fail
              go_roundw
              case rel => exact LIx.of (st' := st) rfl (LI.out.stray H5.out NC.out HS.out H3.out B3.out K3.out)
              case measure => exact meas H3.out.cells.1 C1.out (by omega) hlt
          | true =>
            have HS := Lib.hid hs; clear hs
            have EL := Lib.hid (E.out k (by have := LI.out.fuel2; omega))
            have FU : Hid (4 * (r.length + 1) + 2 ≤ k) := Lib.hid (by have := LI.out.fuel; rw [List.length_cons] at this; omega)
            have SR := Lib.hid LI.out.srt
            have DR := Lib.hid LI.out.drop
            by_cases h1 : st = 1
            · subst h1
              have n5 : ((t.k : Int) == 5) = false := by
                have := H5.out
                simp; omega
              clear q5
              go_wp2_with fail
              refine (next_yes H.out HT.out).mono ?_
              rintro e w1 ⟨rfl, hb1⟩
              have TT := Lib.hid (see_tok H.out hb1 t); clear hb1
              go_wp2_with (go_at_call 55; change Calls Tryz.prog 55 _ (w1.alloc (tkO t)) _; rw [dplus]; refine (starts_any t (d + 1) _).mono ?_; rintro e w2 ⟨rfl, hb2⟩; rw [HS.out]; have B2 := Lib.hid hb2; clear hb2; obtain ⟨y0, y1, y2⟩ := tk_cells ((B2.out.block w1.heap.size (Array.getElem?_eq_some_iff.1 TT.out.2.2.2).1).trans TT.out.2.2.2))
              have P2 : Hid (PSx w2 base pb ts i en (gro ns id F)) := Lib.hid (by obtain ⟨a, b, c, h⟩ := TT.out.1; exact ⟨a, b, c, h.below B2.out⟩)
              have BB : Hid (Below base wr w2) := Lib.hid (TT.out.2.1.trans (B2.out.mono (Nat.le_trans (Nat.le_trans H.out.new (Nat.le_of_lt H.out.cells.2.2.2.2.2.2.2)) TT.out.2.1.size)))
              have KK : Hid (Keeps wr w2) := Lib.hid (TT.out.2.2.1.trans (keeps_below B2.out))
              refine (lack_any P2.out (by rw [GL.out]; omega) id m1 hm1 (by omega) t.fr).mono ?_
              rintro e w3 ⟨rfl, hp3, hb3, hk3⟩
              rw [GA.out] at hp3
              have H3 := Lib.hid hp3; have B3 := Lib.hid (BB.out.trans hb3); have K3 := Lib.hid (KK.out.trans hk3); clear hp3 hb3 hk3
              obtain ⟨m2, hm2, hk2⟩ := GK.out (F.app (lackF t.fr .nil))
              rw [Fo.size_app, lack_size] at hk2
              simp only [Fo.size] at hk2
              have GL2 : Hid ((gro ns id (F.app (lackF t.fr .nil))).length = ns.length + F.size + 1) := Lib.hid (by rw [gro_len, Fo.size_app, lack_size]; simp only [Fo.size]; omega)
              go_wp2_with fail
              refine (EL.out base pb ts en t r (gro ns id (F.app (lackF t.fr .nil))) w3 id m2 c d ⟨i, hil, DR.out, H3.out⟩ ⟨h300, by rw [GL2.out, List.length_cons]; omega, SR.out⟩ FU.out hm2 (by omega) HS.out HC.out hd12).mono ?_
              rintro e w4 ⟨rfl, ⟨j, hj, hdj, hp4⟩, hb4, hk4⟩
              rw [GA.out, Fo.app_app] at hp4
              have LN := Lib.hid (LI.out.elem (fun h => H5.out ⟨h.1, trivial⟩) NC.out HS.out hj hdj hp4 (B3.out.trans hb4) (K3.out.trans hk4))
              clear hp4 hb4 hk4 hdj
              go_wp2_with fail
              go_roundw
              case rel => exact LIx.of (st' := 1) rfl LN.out.1
              case measure => exact meas LN.out.1.ps.cells.1 C1.out LN.out.2 hlt
            · have q1 : ((st : Int) == 1) = false := by simp; omega
              have EF : Hid (∀ X, elF st t X = X) := Lib.hid (fun X => by unfold elF; rw [if_neg (by simpa using h1)])
              clear h1
              have q5' : ((t.k : Int) == 5) = false ∨ ((t.k : Int) == 5) = true := by cases ((t.k : Int) == 5) <;> simp
              clear q5
              rcases q5' with q5 | q5
              all_goals
                go_wp2_with fail
                refine (next_yes H.out HT.out).mono ?_
                rintro e w1 ⟨rfl, hb1⟩
                have TT := Lib.hid (see_tok H.out hb1 t); clear hb1
                go_wp2_with (go_at_call 55; change Calls Tryz.prog 55 _ (w1.alloc (tkO t)) _; rw [dplus]; refine (starts_any t (d + 1) _).mono ?_; rintro e w2 ⟨rfl, hb2⟩; rw [HS.out]; have B2 := Lib.hid hb2; clear hb2)
                have P2 : Hid (PSx w2 base pb ts i en (gro ns id F)) := Lib.hid (by obtain ⟨a, b, c, h⟩ := TT.out.1; exact ⟨a, b, c, h.below B2.out⟩)
                have BB : Hid (Below base wr w2) := Lib.hid (TT.out.2.1.trans (B2.out.mono (Nat.le_trans (Nat.le_trans H.out.new (Nat.le_of_lt H.out.cells.2.2.2.2.2.2.2)) TT.out.2.1.size)))
                have KK : Hid (Keeps wr w2) := Lib.hid (TT.out.2.2.1.trans (keeps_below B2.out))
                refine (EL.out base pb ts en t r (gro ns id F) w2 id m1 c d ⟨i, hil, DR.out, P2.out⟩ ⟨h300, by rw [GL.out, List.length_cons]; omega, SR.out⟩ FU.out hm1 (by omega) HS.out HC.out hd12).mono ?_
                rintro e w4 ⟨rfl, ⟨j, hj, hdj, hp4⟩, hb4, hk4⟩
                rw [GA.out] at hp4
                have LN := Lib.hid (LI.out.elem H5.out NC.out HS.out hj hdj (by rw [EF.out]; exact hp4) (BB.out.trans hb4) (KK.out.trans hk4))
                clear hp4 hb4 hk4 hdj
                go_wp2_with fail
                go_roundw
                case rel => exact LIx.of (st' := 1) rfl LN.out.1
                case measure => exact meas LN.out.1.ps.cells.1 C1.out LN.out.2 hlt

theorem all_calls : ∀ n, ValC n ∧ LstC n ∧ ElmC n ∧ PrC n := by
  intro n
  induction n using Nat.strongRecOn with
  | ind n ih =>
    cases n with
    | zero =>
      refine ⟨?_, ?_, ?_, ?_⟩
      · intro _ _ _ _ _ r _ _ _ _ _ h; omega
      · intro _ _ _ _ left _ _ _ _ _ _ _ _ h; omega
      · intro _ _ _ _ _ r _ _ _ _ _ _ _ _ h; omega
      · intro _ _ _ _ _ r _ _ _ _ _ _ _ _ _ _ h; omega
    | succ n =>
      obtain ⟨hv, hl, he, hp⟩ := ih n (Nat.lt_succ_self n)
      exact ⟨value_step hl, list_step (fun m hm => (ih m (Nat.lt_succ_of_le hm)).2.2.1), element_step hv hp, pair_step hv⟩

end Go.Proofs.YtjmfjlffcopnnaaGreatDoor
