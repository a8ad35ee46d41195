/-
  Ta2, Ta3, Ta4, Ta5, in one text. Conditions: as each theorem's premises say.
-/
import Derived.Test.YtjmfjlffcopnnaaGreatDoorPM23
namespace Go.Proofs.YtjmfjlffcopnnaaGreatDoor
open Go.RowKit

set_option maxRecDepth 100000 in
set_option maxHeartbeats 2000000 in
theorem tkNum_any (s : ByteArray) (tb p : Nat) (bad : Bool) (w : World) (hs : s.size ≤ 1000000) (h : TkAt w tb s p bad) : Calls Tryz.prog 29 #[.pointer (some ⟨tb, 0, none⟩)] w (DgP s tb (pNum (fromL s p, bad)).1 (pNum (fromL s p, bad)).2 w) := by
  have D : Hid (Calls Tryz.prog 83 #[.pointer (some ⟨tb, 0, none⟩), .int .u8 44] w (DgP s tb (pNum (fromL s p, bad)).1 (pNum (fromL s p, bad)).2 w)) := Lib.hid (tkDig_any s tb p bad 44 w hs h)
  clear h
  generalize (pNum (fromL s p, bad)).1 = x at *
  generalize (pNum (fromL s p, bad)).2 = t at *
  go_enter Tryz.func29, Tryz.ntmps29
  go_wp2_with (go_at_call 83; refine D.out.mono ?_; rintro e w1 ⟨rfl, hp⟩; have P := Lib.hid hp; clear hp)
  go_ret
  exact ⟨rfl, P.out⟩

set_option maxRecDepth 100000 in
set_option maxHeartbeats 2000000 in
theorem tkCount_any (s : ByteArray) (tb p : Nat) (bad : Bool) (w : World) (hs : s.size ≤ 1000000) (h : TkAt w tb s p bad) : Calls Tryz.prog 31 #[.pointer (some ⟨tb, 0, none⟩)] w (DgP s tb (pCount (fromL s p, bad)).1 (pCount (fromL s p, bad)).2 w) := by
  have D := Lib.hid (tkNum_any s tb p bad w hs h)
  have HC : Hid (pCount (fromL s p, bad) = if ((pNum (fromL s p, bad)).2.1.length : Int) < (pNum (fromL s p, bad)).1 then (0, (pNum (fromL s p, bad)).2.1, true) else pNum (fromL s p, bad)) := Lib.hid rfl
  clear h
  generalize pCount (fromL s p, bad) = r at HC ⊢
  generalize (pNum (fromL s p, bad)) = xt at D HC
  obtain ⟨x, t⟩ := xt
  dsimp only at D HC
  go_enter Tryz.func31, Tryz.ntmps31
  go_upto_region 2 with (go_at_call 29; refine D.out.mono ?_; rintro e w1 ⟨rfl, p1, b1, hT, ht, hg⟩; have T := Lib.hid hT; have HT := Lib.hid ht; have G := Lib.hid hg; clear hT ht hg)
  have h1 := T.out.le
  have LN : Hid (t.1.length = s.size - p1) := Lib.hid (by rw [← HT.out]; exact from_len s p1)
  have c0 : w1.cell? ⟨tb, 0, none⟩ = some (.string s) := (obj_cells T.out.obj).1 0 _ rfl
  have c1 : w1.cell? ⟨tb, 1, none⟩ = some (.int .i64 p1) := (obj_cells T.out.obj).1 1 _ rfl
  have v1 : IntKind.i64.wrap ((s.size : Int) - (p1 : Int)) = (s.size : Int) - (p1 : Int) := IntWalk.i64_in _ (by omega)
  by_cases hk : ((s.size - p1 : Nat) : Int) < x
  · have k1 : decide ((s.size : Int) - (p1 : Int) < x) = true := decide_eq_true (by omega)
    go_quiet (fail)
    have T2 : Hid (TkAt (w1.drewN nq) tb s p1 b1) := Lib.hid ⟨T.out.obj, h1⟩
    have G2 : Hid (w.grownBy (w1.drewN nq) (some tb)) := Lib.hid (grown_trans G.out (grown_of_below (dr_below _ nq) (some tb)) (fun g hg => .inl hg))
    clear c0 c1
    generalize w1.drewN nq = w2 at T2 G2 ⊢
    have c2 : w2.cell? ⟨tb, 2, none⟩ = some (.bool b1) := (obj_cells T2.out.obj).1 2 _ rfl
    have f2 : w2.frozen? ⟨tb, 2, none⟩ = false := (obj_cells T2.out.obj).2.1 2
    go_wp2_with fail
    go_ret
    have e1 := HC.out
    rw [if_pos (by rw [LN.out]; exact hk)] at e1
    rw [e1]
    exact ⟨rfl, p1, true, ⟨by rw [heap_setCell_at T2.out.obj]; rfl, h1⟩, by rw [← HT.out], grown_set G2.out _⟩
  · have k1 : decide ((s.size : Int) - (p1 : Int) < x) = false := decide_eq_false (by omega)
    go_quiet (fail)
    have T2 : Hid (TkAt (w1.drewN nq) tb s p1 b1) := Lib.hid ⟨T.out.obj, h1⟩
    have G2 : Hid (w.grownBy (w1.drewN nq) (some tb)) := Lib.hid (grown_trans G.out (grown_of_below (dr_below _ nq) (some tb)) (fun g hg => .inl hg))
    clear c0 c1
    generalize w1.drewN nq = w2 at T2 G2 ⊢
    go_wp2_with fail
    go_ret
    have e1 := HC.out
    rw [if_neg (by rw [LN.out]; omega)] at e1
    rw [e1]
    exact ⟨rfl, p1, b1, T2.out, HT.out, G2.out⟩

end Go.Proofs.YtjmfjlffcopnnaaGreatDoor

namespace Go.Proofs.YtjmfjlffcopnnaaGreatDoor
open Go.RowKit

theorem pDig_nonneg (e : UInt8) (t : Ts) : 0 ≤ (pDig e t).1 := by
  unfold pDig
  split
  · exact Int.le_refl _
  · exact Int.le_refl _
  · split
    · exact Int.natCast_nonneg _
    · exact Int.le_refl _
theorem bytes_extract (s : ByteArray) (i k : Nat) : bytesOf (s.extract i k) = (fromL s i).take (k - i) := by
  unfold bytesOf fromL
  rw [ByteArray.data_extract, Array.toList_extract]
def StrP (s : ByteArray) (tb : Nat) (l : List UInt8) (t : Ts) (w : World) (e : Ending) (w' : World) : Prop := ∃ z : ByteArray, e = .returned (.string z) ∧ bytesOf z = l ∧ ∃ p bad, TkAt w' tb s p bad ∧ (fromL s p, bad) = t ∧ w.grownBy w' (some tb)

set_option maxRecDepth 100000 in
set_option maxHeartbeats 2000000 in
theorem tkStr_any (s : ByteArray) (tb p : Nat) (bad : Bool) (w : World) (hs : s.size ≤ 1000000) (h : TkAt w tb s p bad) : Calls Tryz.prog 33 #[.pointer (some ⟨tb, 0, none⟩)] w (StrP s tb (pStr (fromL s p, bad)).1 (pStr (fromL s p, bad)).2 w) := by
  have D : Hid (Calls Tryz.prog 83 #[.pointer (some ⟨tb, 0, none⟩), .int .u8 58] w (DgP s tb (pDig 58 (fromL s p, bad)).1 (pDig 58 (fromL s p, bad)).2 w)) := Lib.hid (tkDig_any s tb p bad 58 w hs h)
  have HC : Hid (pStr (fromL s p, bad) = if (pDig 58 (fromL s p, bad)).2.2 = true ∨ ((pDig 58 (fromL s p, bad)).2.1.length : Int) < (pDig 58 (fromL s p, bad)).1 then ([], (pDig 58 (fromL s p, bad)).2.1, true) else ((pDig 58 (fromL s p, bad)).2.1.take (pDig 58 (fromL s p, bad)).1.toNat, (pDig 58 (fromL s p, bad)).2.1.drop (pDig 58 (fromL s p, bad)).1.toNat, (pDig 58 (fromL s p, bad)).2.2)) := Lib.hid rfl
  have x0 := pDig_nonneg 58 (fromL s p, bad)
  clear h
  generalize pStr (fromL s p, bad) = r at HC ⊢
  generalize (pDig 58 (fromL s p, bad)) = xt at D HC x0
  obtain ⟨x, t⟩ := xt
  dsimp only at D HC x0
  go_enter Tryz.func33, Tryz.ntmps33
  go_upto_region 2 with (go_at_call 83; refine D.out.mono ?_; rintro e w1 ⟨rfl, p1, b1, hT, ht, hg⟩; have T := Lib.hid hT; have HT := Lib.hid ht; have G := Lib.hid hg; clear hT ht hg)
  have h1 := T.out.le
  obtain ⟨ta, tbad⟩ := t
  have HT1 : Hid (ta = fromL s p1) := Lib.hid (congrArg Prod.fst HT.out).symm
  have HT2 : Hid (tbad = b1) := Lib.hid (congrArg Prod.snd HT.out).symm
  have LN : Hid (ta.length = s.size - p1) := Lib.hid (by rw [HT1.out]; exact from_len s p1)
  have c0 : w1.cell? ⟨tb, 0, none⟩ = some (.string s) := (obj_cells T.out.obj).1 0 _ rfl
  have c1 : w1.cell? ⟨tb, 1, none⟩ = some (.int .i64 p1) := (obj_cells T.out.obj).1 1 _ rfl
  have c2 : w1.cell? ⟨tb, 2, none⟩ = some (.bool b1) := (obj_cells T.out.obj).1 2 _ rfl
  have v1 : IntKind.i64.wrap ((s.size : Int) - (p1 : Int)) = (s.size : Int) - (p1 : Int) := IntWalk.i64_in _ (by omega)
  have fin : Hid (∀ w2, TkAt w2 tb s p1 b1 → w.grownBy w2 (some tb) → (tbad = true ∨ (ta.length : Int) < x) → StrP s tb r.1 r.2 w (.returned (.string ⟨#[]⟩)) (w2.setCell ⟨tb, 2, none⟩ (.bool true))) := Lib.hid (fun w2 T2 G2 hc => by
    have e1 := HC.out
    dsimp only at e1
    rw [if_pos hc] at e1
    rw [e1]
    exact ⟨_, rfl, rfl, p1, true, ⟨by rw [heap_setCell_at T2.obj]; rfl, h1⟩, by rw [HT1.out], grown_set G2 _⟩)
  cases b1 with
  | true =>
    go_quiet (fail)
    have T2 : Hid (TkAt (w1.drewN nq) tb s p1 true) := Lib.hid ⟨T.out.obj, h1⟩
    have G2 : Hid (w.grownBy (w1.drewN nq) (some tb)) := Lib.hid (grown_trans G.out (grown_of_below (dr_below _ nq) (some tb)) (fun g hg => .inl hg))
    clear c0 c1 c2
    generalize w1.drewN nq = w2 at T2 G2 ⊢
    have c2 : w2.cell? ⟨tb, 2, none⟩ = some (.bool true) := (obj_cells T2.out.obj).1 2 _ rfl
    have f2 : w2.frozen? ⟨tb, 2, none⟩ = false := (obj_cells T2.out.obj).2.1 2
    go_wp2_with fail
    go_ret
    exact fin.out w2 T2.out G2.out (.inl HT2.out)
  | false =>
    by_cases hk : ((s.size - p1 : Nat) : Int) < x
    · have k1 : decide ((s.size : Int) - (p1 : Int) < x) = true := decide_eq_true (by omega)
      go_quiet (fail)
      have T2 : Hid (TkAt (w1.drewN nq) tb s p1 false) := Lib.hid ⟨T.out.obj, h1⟩
      have G2 : Hid (w.grownBy (w1.drewN nq) (some tb)) := Lib.hid (grown_trans G.out (grown_of_below (dr_below _ nq) (some tb)) (fun g hg => .inl hg))
      clear c0 c1 c2
      generalize w1.drewN nq = w2 at T2 G2 ⊢
      have c2 : w2.cell? ⟨tb, 2, none⟩ = some (.bool false) := (obj_cells T2.out.obj).1 2 _ rfl
      have f2 : w2.frozen? ⟨tb, 2, none⟩ = false := (obj_cells T2.out.obj).2.1 2
      go_wp2_with fail
      go_ret
      exact fin.out w2 T2.out G2.out (.inr (by rw [LN.out]; exact hk))
    · obtain ⟨k, rfl⟩ := Int.eq_ofNat_of_zero_le x0
      have k1 : decide ((s.size : Int) - (p1 : Int) < (k : Int)) = false := decide_eq_false (by omega)
      go_quiet (fail)
      have T2 : Hid (TkAt (w1.drewN nq) tb s p1 false) := Lib.hid ⟨T.out.obj, h1⟩
      have G2 : Hid (w.grownBy (w1.drewN nq) (some tb)) := Lib.hid (grown_trans G.out (grown_of_below (dr_below _ nq) (some tb)) (fun g hg => .inl hg))
      clear c0 c1 c2
      generalize w1.drewN nq = w2 at T2 G2 ⊢
      have c1 : w2.cell? ⟨tb, 1, none⟩ = some (.int .i64 p1) := (obj_cells T2.out.obj).1 1 _ rfl
      have f1 : w2.frozen? ⟨tb, 1, none⟩ = false := (obj_cells T2.out.obj).2.1 1
      go_upto_region 6 with fail
      have T3 : Hid (TkAt (w2.setCell ⟨tb, 1, none⟩ (.int .i64 ((p1 : Int) + (k : Int)))) tb s (p1 + k) false) := Lib.hid ⟨by rw [heap_setCell_at T2.out.obj]; rfl, by omega⟩
      have G3 : Hid (w.grownBy (w2.setCell ⟨tb, 1, none⟩ (.int .i64 ((p1 : Int) + (k : Int)))) (some tb)) := Lib.hid (grown_set G2.out _)
      clear c1 f1
      generalize w2.setCell ⟨tb, 1, none⟩ (.int .i64 ((p1 : Int) + (k : Int))) = w3 at T3 G3 ⊢
      obtain ⟨m, hm⟩ : ∃ m, p1 + k = m := ⟨_, rfl⟩
      rw [hm] at T3
      have c0 : w3.cell? ⟨tb, 0, none⟩ = some (.string s) := (obj_cells T3.out.obj).1 0 _ rfl
      have c1 : w3.cell? ⟨tb, 1, none⟩ = some (.int .i64 m) := (obj_cells T3.out.obj).1 1 _ rfl
      have v2 : IntKind.i64.wrap ((m : Int) - (k : Int)) = (p1 : Int) := by rw [IntWalk.i64_in _ (by omega)]; omega
      have b0 : (0 : Int) ≤ (p1 : Int) := by omega
      have b1 : (p1 : Int) ≤ (m : Int) := by omega
      have b2 : (m : Int) ≤ (s.size : Int) := by omega
      have HM := Lib.hid hm
      clear hm
      go_quiet (fail)
      have T4 : Hid (TkAt (w3.drewN nq) tb s m false) := Lib.hid ⟨T3.out.obj, by omega⟩
      have G4 : Hid (w.grownBy (w3.drewN nq) (some tb)) := Lib.hid (grown_trans G3.out (grown_of_below (dr_below _ nq) (some tb)) (fun g hg => .inl hg))
      clear c0 c1
      generalize w3.drewN nq = w4 at T4 G4 ⊢
      go_wp2_with fail
      go_ret
      have e1 := HC.out
      rw [if_neg (by rw [LN.out, HT2.out]; rintro (h | h); · cases h
                     · omega)] at e1
      rw [e1]
      have e2 : m - p1 = k := by have := HM.out; omega
      exact ⟨_, rfl, by rw [bytes_extract, e2, HT1.out]; rfl, m, false, T4.out, by rw [HT1.out, HT2.out]; dsimp only; rw [Int.toNat_natCast, from_drop, HM.out], G4.out⟩

end Go.Proofs.YtjmfjlffcopnnaaGreatDoor

namespace Go.Proofs.YtjmfjlffcopnnaaGreatDoor
open Go.RowKit

theorem TkAt.kept {w w' : World} {tb p : Nat} {s : ByteArray} {bad : Bool} {row : Option Nat} (h : TkAt w tb s p bad) (hg : w.grownBy w' row) (hne : ∀ g, row = some g → g ≠ tb) : TkAt w' tb s p bad :=
  ⟨(hg.block tb (Array.getElem?_eq_some_iff.1 h.obj).1 (fun e => hne tb e.symm rfl)).trans h.obj, h.le⟩
theorem pDig_len (e : UInt8) (t : Ts) : (pDig e t).2.1.length ≤ t.1.length := by
  unfold pDig
  split
  · simp
  · simp
  · rename_i h
    have := congrArg List.length h
    simp at this
    split <;> simp <;> omega
theorem count_le (t : Ts) : 0 ≤ (pCount t).1 ∧ (pCount t).1.toNat ≤ t.1.length := by
  have h1 := pDig_nonneg 44 t
  have h2 := pDig_len 44 t
  unfold pCount
  split
  · exact ⟨Int.le_refl _, by simp⟩
  · unfold pNum at *
    exact ⟨h1, by omega⟩
/-- What nums answers: a row of the call's own. -/
def NumsP (s : ByteArray) (tb : Nat) (l : List Int) (t : Ts) (w : World) (e : Ending) (w' : World) : Prop := ∃ v, e = .returned v ∧ lyI.Own w' w.heap.size v l ∧ ∃ p bad, TkAt w' tb s p bad ∧ (fromL s p, bad) = t ∧ w.grownBy w' (some tb)

set_option maxRecDepth 100000 in
set_option maxHeartbeats 2000000 in
theorem tkNums_any (s : ByteArray) (tb p : Nat) (bad : Bool) (w : World) (hs : s.size ≤ 1000000) (h : TkAt w tb s p bad) : Calls Tryz.prog 84 #[.pointer (some ⟨tb, 0, none⟩)] w (NumsP s tb (pList pNum (fromL s p, bad)).1 (pList pNum (fromL s p, bad)).2 w) := by
  obtain ⟨i0, hi, hz0, hz1, hz2⟩ := info_parts info3
  have D := Lib.hid (tkCount_any s tb p bad w hs h)
  have CL := count_le (fromL s p, bad)
  have hL := from_len s p
  have HR : Hid (pList pNum (fromL s p, bad) = pRow pNum (pCount (fromL s p, bad)).1.toNat [] (pCount (fromL s p, bad)).2) := Lib.hid rfl
  have htb := (Array.getElem?_eq_some_iff.1 h.obj).1
  dsimp only at CL
  clear h
  generalize pList pNum (fromL s p, bad) = r at HR ⊢
  generalize (pCount (fromL s p, bad)) = xt at D HR CL
  obtain ⟨x, t⟩ := xt
  dsimp only at D HR CL
  obtain ⟨K, rfl⟩ := Int.eq_ofNat_of_zero_le CL.1
  have hK : K ≤ 1000000 := by have := CL.2; rw [hL, Int.toNat_natCast] at this; omega
  rw [Int.toNat_natCast] at HR
  clear CL hL
  go_enter Tryz.func84, Tryz.ntmps84
  go_upto_region 3 with (go_at_call 31; refine D.out.mono ?_; rintro e w1 ⟨rfl, p1, b1, hT, ht, hg⟩; have T := Lib.hid hT; have HT := Lib.hid ht; have G := Lib.hid hg; clear hT ht hg)
  go_wp2_with fail
  go_loopw [3, 5] (fun v a wr => ∃ (i p2 : Nat) (b2 : Bool) (acc : List Int), i ≤ K ∧ acc.length ≤ i ∧ a = .int .i64 i ∧ Hid (pRow pNum (K - i) acc (fromL s p2, b2) = r) ∧ Hid (TkAt wr tb s p2 b2) ∧ Hid (lyI.Own wr w.heap.size v acc) ∧ Hid (w.grownBy wr (some tb))) (fun _ a _ => K - (intOf a).toNat)
  case atStart => exact ⟨0, p1, b1, [], by omega, by simp, rfl, Lib.hid (by rw [HR.out, HT.out]; rfl), T, Lib.hid (Ly.Own.nil _ _), G⟩
  case round =>
    obtain ⟨i, p2, b2, acc, h1, h2, rfl, H, T2, O, G2⟩ := hrel
    have c2 : wr.cell? ⟨tb, 2, none⟩ = some (.bool b2) := (obj_cells T2.out.obj).1 2 _ rfl
    obtain ⟨p0, cap, rfl⟩ := O.out.form
    obtain ⟨N, hN⟩ : ∃ N, acc.length = N := ⟨_, rfl⟩
    have HN := Lib.hid hN
    rw [hN] at O h2 ⊢
    clear hN
    by_cases q1 : i < K
    · cases b2 with
      | true =>
        go_wp2_with fail
        go_ret
        have e1 := H.out
        obtain ⟨j, hj⟩ : ∃ j, K - i = j + 1 := ⟨K - i - 1, by omega⟩
        rw [hj] at e1
        unfold pRow at e1
        rw [if_pos rfl] at e1
        rw [← e1]
        exact ⟨_, rfl, O.out, p2, true, T2.out, rfl, G2.out⟩
      | false =>
        have NM := Lib.hid (tkNum_any s tb p2 false wr hs T2.out)
        have H2 : Hid (pRow pNum (K - (i + 1)) (acc ++ [(pNum (fromL s p2, false)).1]) (pNum (fromL s p2, false)).2 = r) := Lib.hid (by
          have e1 := H.out
          obtain ⟨j, hj⟩ : ∃ j, K - i = j + 1 := ⟨K - i - 1, by omega⟩
          rw [hj] at e1
          unfold pRow at e1
          rw [if_neg (by simp)] at e1
          rw [show K - (i + 1) = j from by omega]
          exact e1)
        clear H
        generalize pNum (fromL s p2, false) = xt at NM H2
        obtain ⟨x, t2⟩ := xt
        dsimp only at NM H2
        have KEEP : Hid (∀ W, wr.grownBy W (some tb) → W.ownsRow w.heap.size 3 1 (.slice p0 N cap) N (lyI.all acc)) := Lib.hid (fun W hW => by
          have := Ly.Own.kept O.out hW (fun g hg e => by
            cases e
            obtain ⟨cur, hcur⟩ := O.out.obj hg
            exact type_ne hcur T2.out.obj (by decide) rfl)
          unfold Ly.Own at this
          rw [HN.out] at this
          exact this)
        go_wp2_with (first | (go_at_call 29; refine NM.out.mono ?_; rintro e w2 ⟨rfl, p3, b3, hT, ht, hg⟩; have T3 := Lib.hid hT; have HT3 := Lib.hid ht; have G3 := Lib.hid hg; clear hT ht hg) | (at_builtin; refine wpList_append_all _ rfl _ _ 49 rfl w.heap.size 3 i0 _ 1 8 Tryz.underlying49 hi hz0 hz1 hz2 rfl (by decide) (.slice p0 N cap) N (lyI.all acc) rfl (World.ownsRow.alloc (KEEP.out _ G3.out) _) (some ⟨w2.heap.size, 0, none⟩) 1 1 [.int .i64 x] rfl rfl (fun e => by cases e) (fun ad hp => by cases hp; exact World.news_of_block (heap_alloc_new w2 _)) (lyI.one x) (by unfold maxLen; omega) (by omega) (Nat.le_trans (Nat.le_trans G2.out.size G3.out.size) (by simp)) (N + 1) rfl ?_; intro p5 cap5 w5 hown5 hgrow5 hblk5; have H5 := Lib.hid hown5; have G5 := Lib.hid hgrow5; clear hown5 hgrow5 hblk5))
        go_roundw
        case rel =>
          refine ⟨i + 1, p3, b3, acc ++ [x], by omega, by rw [List.length_append, HN.out, List.length_singleton]; omega, by go_num, Lib.hid (by rw [HT3.out]; exact H2.out), Lib.hid ?_, Lib.hid ?_, Lib.hid ?_⟩
          · refine (TkAt.kept T3.out (World.grownBy_alloc w2 _ none) (fun g e => by cases e)).kept G5.out (fun g hg e => ?_)
            subst e
            obtain ⟨cur, hcur⟩ := O.out.obj hg
            exact type_ne hcur T2.out.obj (by decide) rfl
          · unfold Ly.Own
            rw [List.length_append, HN.out, List.length_singleton, all_app, all_one]
            exact H5.out
          · refine grown_trans (grown_trans G2.out G3.out (fun g e => .inl e)) (grown_trans (World.grownBy_alloc w2 _ (Value.slice p0 N cap).ownBlock) G5.out (fun g e => .inl e)) (fun g e => .inr (O.out.lt e).1)
        case measure => simp [intOf]; omega
    · go_wp2_with fail
      go_ret
      have e1 := H.out
      rw [show K - i = 0 from by omega] at e1
      unfold pRow at e1
      rw [← e1]
      exact ⟨_, rfl, O.out, p2, b2, T2.out, rfl, G2.out⟩

end Go.Proofs.YtjmfjlffcopnnaaGreatDoor

namespace Go.Proofs.YtjmfjlffcopnnaaGreatDoor
open Go.RowKit
open Go.Proofs.YtjmfjlffcopnnaaGreatDoor.K (C)

def lyC : Ly C where
  ty := 48
  sz := 3
  cells c := [.int .i64 c.k, .int .i64 c.n, .string c.t]
  len _ := rfl
  one t u hu := by
    simp at hu
    rcases hu with rfl | rfl | rfl <;> rfl
  pos := by decide
theorem info48 : (Tryz.prog.info? 48).map (fun i => (i.zero, i.size, i.bytes)) = some (some (.agg #[.int .i64 0, .int .i64 0, .string ⟨#[]⟩]), 3, 32) := by kernel_rfl
/-- What comps answers: a row of the call's own. -/
def CompsP (s : ByteArray) (tb : Nat) (l : List C) (t : Ts) (w : World) (e : Ending) (w' : World) : Prop := ∃ v, e = .returned v ∧ lyC.Own w' w.heap.size v l ∧ ∃ p bad, TkAt w' tb s p bad ∧ (fromL s p, bad) = t ∧ w.grownBy w' (some tb)
theorem grown_quiet {w w1 : World} {tb : Nat} (h : w.grownBy w1 (some tb)) (n : Nat) : w.grownBy (w1.drewN n) (some tb) := grown_trans h (grown_of_below (dr_below _ n) (some tb)) (fun _ hg => .inl hg)

set_option maxRecDepth 100000 in
set_option maxHeartbeats 4000000 in
theorem tkComps_any (s : ByteArray) (tb p : Nat) (bad : Bool) (w : World) (hs : s.size ≤ 1000000) (h : TkAt w tb s p bad) : Calls Tryz.prog 30 #[.pointer (some ⟨tb, 0, none⟩)] w (CompsP s tb (pComps (fromL s p, bad)).1 (pComps (fromL s p, bad)).2 w) := by
  obtain ⟨i0, hi, hz0, hz1, hz2⟩ := info_parts info48
  have D := Lib.hid (tkCount_any s tb p bad w hs h)
  have CL := count_le (fromL s p, bad)
  have hL := from_len s p
  have HR : Hid (pComps (fromL s p, bad) = pCompRow (pCount (fromL s p, bad)).1.toNat [] (pCount (fromL s p, bad)).2) := Lib.hid rfl
  dsimp only at CL
  clear h
  generalize pComps (fromL s p, bad) = r at HR ⊢
  generalize (pCount (fromL s p, bad)) = xt at D HR CL
  obtain ⟨x, t⟩ := xt
  dsimp only at D HR CL
  obtain ⟨K, rfl⟩ := Int.eq_ofNat_of_zero_le CL.1
  have hK : K ≤ 1000000 := by have := CL.2; rw [hL, Int.toNat_natCast] at this; omega
  rw [Int.toNat_natCast] at HR
  clear CL hL
  go_enter Tryz.func30, Tryz.ntmps30
  go_upto_region 3 with (go_at_call 31; refine D.out.mono ?_; rintro e w1 ⟨rfl, p1, b1, hT, ht, hg⟩; have T := Lib.hid hT; have HT := Lib.hid ht; have G := Lib.hid hg; clear hT ht hg)
  go_wp2_with fail
  go_loopw [3, 5] (fun v a wr => ∃ (i p2 : Nat) (b2 : Bool) (acc : List C), i ≤ K ∧ acc.length ≤ i ∧ a = .int .i64 i ∧ Hid (pCompRow (K - i) acc (fromL s p2, b2) = r) ∧ Hid (TkAt wr tb s p2 b2) ∧ Hid (lyC.Own wr w.heap.size v acc) ∧ Hid (w.grownBy wr (some tb))) (fun _ a _ => K - (intOf a).toNat)
  case atStart => exact ⟨0, p1, b1, [], by omega, by simp, rfl, Lib.hid (by rw [HR.out, HT.out]; rfl), T, Lib.hid (Ly.Own.nil _ _), G⟩
  case round =>
    obtain ⟨i, p2, b2, acc, h1, h2, rfl, H, T2, O, G2⟩ := hrel
    have c2 : wr.cell? ⟨tb, 2, none⟩ = some (.bool b2) := (obj_cells T2.out.obj).1 2 _ rfl
    obtain ⟨p0, cap, rfl⟩ := O.out.form
    obtain ⟨N, hN⟩ : ∃ N, acc.length = N := ⟨_, rfl⟩
    have HN := Lib.hid hN
    rw [hN] at O h2 ⊢
    clear hN
    by_cases q1 : i < K
    · cases b2 with
      | true =>
        go_wp2_with fail
        go_ret
        have e1 := H.out
        obtain ⟨j, hj⟩ : ∃ j, K - i = j + 1 := ⟨K - i - 1, by omega⟩
        rw [hj] at e1
        unfold pCompRow at e1
        rw [if_pos rfl] at e1
        rw [← e1]
        exact ⟨_, rfl, O.out, p2, true, T2.out, rfl, G2.out⟩
      | false =>
        have H1 : Hid ((match fromL s p2 with | [] => ([], [], true) | c :: r => pCompRow (K - (i + 1)) (acc ++ [(pComp c (r, false)).1]) (pComp c (r, false)).2) = r) := Lib.hid (by
          have e1 := H.out
          obtain ⟨j, hj⟩ : ∃ j, K - i = j + 1 := ⟨K - i - 1, by omega⟩
          rw [hj] at e1
          unfold pCompRow at e1
          rw [if_neg (by simp)] at e1
          rw [show K - (i + 1) = j from by omega]
          exact e1)
        clear H
        have KEEP : Hid (∀ W, wr.grownBy W (some tb) → W.ownsRow w.heap.size 48 3 (.slice p0 N cap) N (lyC.all acc)) := Lib.hid (fun W hW => by
          have := Ly.Own.kept O.out hW (fun g hg e => by
            cases e
            obtain ⟨cur, hcur⟩ := O.out.obj hg
            exact type_ne hcur T2.out.obj (by decide) rfl)
          unfold Ly.Own at this
          rw [HN.out] at this
          exact this)
        have NE : Hid (∀ g, (Value.slice p0 N cap).ownBlock = some g → g ≠ tb) := Lib.hid (fun g hg e => by
          subst e
          obtain ⟨cur, hcur⟩ := O.out.obj hg
          exact type_ne hcur T2.out.obj (by decide) rfl)
        have c0 : wr.cell? ⟨tb, 0, none⟩ = some (.string s) := (obj_cells T2.out.obj).1 0 _ rfl
        have c1 : wr.cell? ⟨tb, 1, none⟩ = some (.int .i64 p2) := (obj_cells T2.out.obj).1 1 _ rfl
        by_cases q2 : p2 < s.size
        · have k0 : decide ((s.size : Int) ≤ (p2 : Int)) = false := decide_eq_false (by omega)
          obtain ⟨c, hc⟩ : ∃ c, s[p2] = c := ⟨_, rfl⟩
          have H2 : Hid (pCompRow (K - (i + 1)) (acc ++ [(pComp c (fromL s (p2 + 1), false)).1]) (pComp c (fromL s (p2 + 1), false)).2 = r) := Lib.hid (by
            have e1 := H1.out
            rw [from_cons q2, hc] at e1
            exact e1)
          clear H1
          go_upto_region 6 with fail
          go_quiet (fail)
          have T3 : Hid (TkAt (wr.drewN nq) tb s p2 false) := Lib.hid ⟨T2.out.obj, by omega⟩
          have G3 : Hid (wr.grownBy (wr.drewN nq) (some tb)) := Lib.hid (grown_quiet (grown_refl _ _) nq)
          clear c0 c1 c2
          generalize wr.drewN nq = w2 at T3 G3 ⊢
          have c1 : w2.cell? ⟨tb, 1, none⟩ = some (.int .i64 p2) := (obj_cells T3.out.obj).1 1 _ rfl
          have f1 : w2.frozen? ⟨tb, 1, none⟩ = false := (obj_cells T3.out.obj).2.1 1
          go_upto_region 10 with fail
          have T4 : Hid (TkAt (w2.setCell ⟨tb, 1, none⟩ (.int .i64 ((p2 : Int) + 1))) tb s (p2 + 1) false) := Lib.hid ⟨by rw [heap_setCell_at T3.out.obj]; rfl, by omega⟩
          have G4 : Hid (wr.grownBy (w2.setCell ⟨tb, 1, none⟩ (.int .i64 ((p2 : Int) + 1))) (some tb)) := Lib.hid (grown_set G3.out _)
          clear c1 f1
          generalize w2.setCell ⟨tb, 1, none⟩ (.int .i64 ((p2 : Int) + 1)) = w3 at T4 G4 ⊢
          obtain ⟨m, hm⟩ : ∃ m, p2 + 1 = m := ⟨_, rfl⟩
          rw [hm] at T4 H2
          have c0 : w3.cell? ⟨tb, 0, none⟩ = some (.string s) := (obj_cells T4.out.obj).1 0 _ rfl
          have c1 : w3.cell? ⟨tb, 1, none⟩ = some (.int .i64 m) := (obj_cells T4.out.obj).1 1 _ rfl
          have v1 : IntKind.i64.wrap ((m : Int) - 1) = (p2 : Int) := by rw [IntWalk.i64_in _ (by omega)]; omega
          have b0 : (0 : Int) ≤ (p2 : Int) := by omega
          have b1 : (p2 : Int) < (s.size : Int) := by omega
          clear hm
          go_quiet (fail)
          have T5 : Hid (TkAt (w3.drewN nq) tb s m false) := Lib.hid ⟨T4.out.obj, T4.out.le⟩
          have G5 : Hid (wr.grownBy (w3.drewN nq) (some tb)) := Lib.hid (grown_quiet G4.out nq)
          clear c0 c1 v1
          generalize w3.drewN nq = w4 at T5 G5 ⊢
          have c255 := c.toNat_lt
          by_cases q3 : c.toNat = 107
          · have k1 : ((c.toNat : Int) == 107) = true := by rw [beq_iff_eq]; omega
            have q4 : c = 107 := UInt8.toNat_inj.1 q3
            have Q4 := Lib.hid q4
            clear q4
            have NM := Lib.hid (tkNum_any s tb m false w4 hs T5.out)
            have PC : Hid (pComp c (fromL s m, false) = (⟨0, (pNum (fromL s m, false)).1, ⟨#[]⟩⟩, (pNum (fromL s m, false)).2)) := Lib.hid (by unfold pComp; rw [if_pos Q4.out])
            have H3 := H2.out
            rw [PC.out] at H3
            have H4 := Lib.hid H3
            clear H3 H2 PC
            generalize pNum (fromL s m, false) = xt at NM H4
            obtain ⟨y, t2⟩ := xt
            dsimp only at NM H4
            go_wp2_with (first | (go_at_call 29; refine NM.out.mono ?_; rintro e w5 ⟨rfl, p3, b3, hT, ht, hg⟩; have T6 := Lib.hid hT; have HT6 := Lib.hid ht; have G6 := Lib.hid (grown_trans G5.out hg (fun g e => .inl e)); clear hT ht hg) | (at_builtin; refine wpList_append_all _ rfl _ _ 22 rfl w.heap.size 48 i0 _ 3 32 Tryz.underlying22 hi hz0 hz1 hz2 rfl (by decide) (.slice p0 N cap) N (lyC.all acc) rfl (World.ownsRow.alloc (KEEP.out _ G6.out) _) (some ⟨w5.heap.size, 0, none⟩) 1 1 (lyC.cells ⟨0, y, ⟨#[]⟩⟩) rfl rfl (fun e => by cases e) (fun ad hp => by cases hp; exact World.news_of_block (heap_alloc_new w5 _)) (lyC.one _) (by unfold maxLen; omega) (by omega) (Nat.le_trans (Nat.le_trans G2.out.size G6.out.size) (by simp)) (N + 1) rfl ?_; intro p7 cap7 w7 hown7 hgrow7 hblk7; have H7 := Lib.hid hown7; have G7 := Lib.hid hgrow7; clear hown7 hgrow7 hblk7))
            go_roundw
            case rel =>
              refine ⟨i + 1, p3, b3, acc ++ [⟨0, y, ⟨#[]⟩⟩], by omega, by rw [List.length_append, HN.out, List.length_singleton]; omega, by go_num, Lib.hid (by rw [HT6.out]; exact H4.out), Lib.hid ?_, Lib.hid ?_, Lib.hid ?_⟩
              · exact (TkAt.kept T6.out (World.grownBy_alloc w5 _ none) (fun g e => by cases e)).kept G7.out NE.out
              · unfold Ly.Own
                rw [List.length_append, HN.out, List.length_singleton, all_app, all_one]
                exact H7.out
              · exact grown_trans (grown_trans G2.out G6.out (fun g e => .inl e)) (grown_trans (World.grownBy_alloc w5 _ (Value.slice p0 N cap).ownBlock) G7.out (fun g e => .inl e)) (fun g e => .inr (O.out.lt e).1)
            case measure => simp [intOf]; omega
          · have k1 : ((c.toNat : Int) == 107) = false := by rw [beq_eq_false_iff_ne]; omega
            have Q3 : Hid (¬ c = 107) := Lib.hid (by rintro rfl; exact q3 rfl)
            by_cases q5 : c.toNat = 99
            · have k2 : ((c.toNat : Int) == 99) = true := by rw [beq_iff_eq]; omega
              have Q5 : Hid (c = 99) := Lib.hid (UInt8.toNat_inj.1 q5)
              have NM := Lib.hid (tkNum_any s tb m false w4 hs T5.out)
              have PC : Hid (pComp c (fromL s m, false) = (⟨2, (pNum (fromL s m, false)).1, ⟨#[]⟩⟩, (pNum (fromL s m, false)).2)) := Lib.hid (by unfold pComp; rw [if_neg Q3.out, if_pos Q5.out])
              have H3 := H2.out
              rw [PC.out] at H3
              have H4 := Lib.hid H3
              clear H3 H2 PC
              generalize pNum (fromL s m, false) = xt at NM H4
              obtain ⟨y, t2⟩ := xt
              dsimp only at NM H4
              go_wp2_with (first | (go_at_call 29; refine NM.out.mono ?_; rintro e w5 ⟨rfl, p3, b3, hT, ht, hg⟩; have T6 := Lib.hid hT; have HT6 := Lib.hid ht; have G6 := Lib.hid (grown_trans G5.out hg (fun g e => .inl e)); clear hT ht hg) | (at_builtin; refine wpList_append_all _ rfl _ _ 22 rfl w.heap.size 48 i0 _ 3 32 Tryz.underlying22 hi hz0 hz1 hz2 rfl (by decide) (.slice p0 N cap) N (lyC.all acc) rfl (World.ownsRow.alloc (KEEP.out _ G6.out) _) (some ⟨w5.heap.size, 0, none⟩) 1 1 (lyC.cells ⟨2, y, ⟨#[]⟩⟩) rfl rfl (fun e => by cases e) (fun ad hp => by cases hp; exact World.news_of_block (heap_alloc_new w5 _)) (lyC.one _) (by unfold maxLen; omega) (by omega) (Nat.le_trans (Nat.le_trans G2.out.size G6.out.size) (by simp)) (N + 1) rfl ?_; intro p7 cap7 w7 hown7 hgrow7 hblk7; have H7 := Lib.hid hown7; have G7 := Lib.hid hgrow7; clear hown7 hgrow7 hblk7))
              go_roundw
              case rel =>
                refine ⟨i + 1, p3, b3, acc ++ [⟨2, y, ⟨#[]⟩⟩], by omega, by rw [List.length_append, HN.out, List.length_singleton]; omega, by go_num, Lib.hid (by rw [HT6.out]; exact H4.out), Lib.hid ?_, Lib.hid ?_, Lib.hid ?_⟩
                · exact (TkAt.kept T6.out (World.grownBy_alloc w5 _ none) (fun g e => by cases e)).kept G7.out NE.out
                · unfold Ly.Own
                  rw [List.length_append, HN.out, List.length_singleton, all_app, all_one]
                  exact H7.out
                · exact grown_trans (grown_trans G2.out G6.out (fun g e => .inl e)) (grown_trans (World.grownBy_alloc w5 _ (Value.slice p0 N cap).ownBlock) G7.out (fun g e => .inl e)) (fun g e => .inr (O.out.lt e).1)
              case measure => simp [intOf]; omega
            · have k2 : ((c.toNat : Int) == 99) = false := by rw [beq_eq_false_iff_ne]; omega
              have Q5 : Hid (¬ c = 99) := Lib.hid (by rintro rfl; exact q5 rfl)
              have NM := Lib.hid (tkStr_any s tb m false w4 hs T5.out)
              have PC : Hid (pComp c (fromL s m, false) = (⟨1, 0, ⟨(pStr (fromL s m, false)).1.toArray⟩⟩, (pStr (fromL s m, false)).2)) := Lib.hid (by unfold pComp; rw [if_neg Q3.out, if_neg Q5.out])
              have H3 := H2.out
              rw [PC.out] at H3
              have H4 := Lib.hid H3
              clear H3 H2 PC
              generalize pStr (fromL s m, false) = xt at NM H4
              obtain ⟨y, t2⟩ := xt
              dsimp only at NM H4
              go_wp2_with (first | (go_at_call 33; refine NM.out.mono ?_; rintro e w5 ⟨z, rfl, hz, p3, b3, hT, ht, hg⟩; have Z := Lib.hid hz; clear hz; have T6 := Lib.hid hT; have HT6 := Lib.hid ht; have G6 := Lib.hid (grown_trans G5.out hg (fun g e => .inl e)); clear hT ht hg) | (at_builtin; refine wpList_append_all _ rfl _ _ 22 rfl w.heap.size 48 i0 _ 3 32 Tryz.underlying22 hi hz0 hz1 hz2 rfl (by decide) (.slice p0 N cap) N (lyC.all acc) rfl (World.ownsRow.alloc (KEEP.out _ G6.out) _) (some ⟨w5.heap.size, 0, none⟩) 1 1 (lyC.cells ⟨1, 0, z⟩) rfl rfl (fun e => by cases e) (fun ad hp => by cases hp; exact World.news_of_block (heap_alloc_new w5 _)) (lyC.one _) (by unfold maxLen; omega) (by omega) (Nat.le_trans (Nat.le_trans G2.out.size G6.out.size) (by simp)) (N + 1) rfl ?_; intro p7 cap7 w7 hown7 hgrow7 hblk7; have H7 := Lib.hid hown7; have G7 := Lib.hid hgrow7; clear hown7 hgrow7 hblk7))
              go_roundw
              case rel =>
                refine ⟨i + 1, p3, b3, acc ++ [⟨1, 0, z⟩], by omega, by rw [List.length_append, HN.out, List.length_singleton]; omega, by go_num, Lib.hid (by rw [HT6.out]; exact (by rw [show (⟨1, 0, z⟩ : C) = ⟨1, 0, ⟨y.toArray⟩⟩ from by rw [← Z.out]; simp [bytesOf]]; exact H4.out)), Lib.hid ?_, Lib.hid ?_, Lib.hid ?_⟩
                · exact (TkAt.kept T6.out (World.grownBy_alloc w5 _ none) (fun g e => by cases e)).kept G7.out NE.out
                · unfold Ly.Own
                  rw [List.length_append, HN.out, List.length_singleton, all_app, all_one]
                  exact H7.out
                · exact grown_trans (grown_trans G2.out G6.out (fun g e => .inl e)) (grown_trans (World.grownBy_alloc w5 _ (Value.slice p0 N cap).ownBlock) G7.out (fun g e => .inl e)) (fun g e => .inr (O.out.lt e).1)
              case measure => simp [intOf]; omega
        · have k0 : decide ((s.size : Int) ≤ (p2 : Int)) = true := decide_eq_true (by omega)
          go_upto_region 6 with fail
          go_quiet (fail)
          have T3 : Hid (TkAt (wr.drewN nq) tb s p2 false) := Lib.hid ⟨T2.out.obj, T2.out.le⟩
          have G3 : Hid (w.grownBy (wr.drewN nq) (some tb)) := Lib.hid (grown_quiet G2.out nq)
          clear c0 c1 c2
          generalize wr.drewN nq = w2 at T3 G3 ⊢
          have c2 : w2.cell? ⟨tb, 2, none⟩ = some (.bool false) := (obj_cells T3.out.obj).1 2 _ rfl
          have f2 : w2.frozen? ⟨tb, 2, none⟩ = false := (obj_cells T3.out.obj).2.1 2
          go_wp2_with fail
          go_ret
          have e1 := H1.out
          rw [from_nil (by omega)] at e1
          rw [← e1]
          exact ⟨_, rfl, Ly.Own.nil _ _, p2, true, ⟨by rw [heap_setCell_at T3.out.obj]; rfl, T3.out.le⟩, by rw [from_nil (by omega)], grown_set G3.out _⟩
    · go_wp2_with fail
      go_ret
      have e1 := H.out
      rw [show K - i = 0 from by omega] at e1
      unfold pCompRow at e1
      rw [← e1]
      exact ⟨_, rfl, O.out, p2, b2, T2.out, rfl, G2.out⟩

end Go.Proofs.YtjmfjlffcopnnaaGreatDoor
