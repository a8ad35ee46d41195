/-
  Pk6, Pk7, Pk8, in one text. Conditions: as each theorem's premises say.
-/
import Derived.Test.YtjmfjlffcopnnaaGreatDoorPM18
import Derived.Test.YtjmfjlffcopnnaaGreatDoorPM03
namespace Go.Proofs.YtjmfjlffcopnnaaGreatDoor
open Go.RowKit
open Go.Proofs.YtjmfjlffcopnnaaGreatDoor.K (C RowC PieceAt MayP rcmay_any)

/-- An answer that is true where P holds. -/
def Tells (P : Prop) (w : World) (e : Ending) (w' : World) : Prop := Below w.heap.size w w' ∧ ((e = .returned (.bool true) ∧ P) ∨ (e = .returned (.bool false) ∧ ¬ P))
/-- An entry's own cells. -/
structure Ev where
  cl : Int
  sq : Int
  ep : Option Addr
  en : Nat
  ec : Nat
  dp : Option Addr
  dn : Nat
  dc : Nat
def Ev.ev (x : Ev) : Value := .slice x.ep x.en x.ec
def Ev.dv (x : Ev) : Value := .slice x.dp x.dn x.dc
def Ev.cells (x : Ev) : List Value := [.int .i64 x.cl, .int .i64 x.sq, x.ev, x.dv]
def lyE : Ly Ev where
  ty := 54
  sz := 4
  cells := Ev.cells
  len _ := rfl
  one t u hu := by
    simp [Ev.cells, Ev.ev, Ev.dv] at hu
    rcases hu with rfl | rfl | rfl | rfl <;> rfl
  pos := by decide
theorem info54 : (Tryz.prog.info? 54).map (fun i => (i.zero, i.size, i.bytes)) = some (some (.agg #[.int .i64 0, .int .i64 0, .slice none 0 0, .slice none 0 0]), 4, 64) := by kernel_rfl
theorem rowC_below {w w' : World} {p : Option Addr} {cs : List C} (h : RowC w p cs) (hb : Below w.heap.size w w') : RowC w' p cs := fun i c hi => by
  obtain ⟨b, o, hp, hat⟩ := h i c hi
  exact ⟨b, o, hp, cell_later hb hat.1, cell_later hb hat.2.1, cell_later hb hat.2.2⟩
/-- The entries of a slice, as they lie in memory, with their edits and their deltas. -/
def EntsR (w : World) (p : Option Addr) (es : List En) : Prop := ∀ (i : Nat) e, es[i]? = some e → ∃ b o ep ec dp dc, p = some ⟨b, o, none⟩ ∧ lyE.At w b (o + i * 4) ⟨e.cl, e.sq, ep, e.ed.length, ec, dp, e.dl.length, dc⟩ ∧ RowC w ep e.ed ∧ StepsR w dp e.dl
theorem EntsR.below {w w' : World} {p : Option Addr} {es : List En} (h : EntsR w p es) (hb : Below w.heap.size w w') : EntsR w' p es := fun i e hi => by
  obtain ⟨b, o, ep, ec, dp, dc, h1, h2, h3, h4⟩ := h i e hi
  exact ⟨b, o, ep, ec, dp, dc, h1, h2.below hb, rowC_below h3 hb, h4.below hb⟩
def EnMay (e : En) : Prop := 0 ≤ e.cl ∧ e.cl < 3 ∧ 1 ≤ e.sq ∧ e.sq ≤ 4096 ∧ MayP e.ed ∧ e.dl.length ≤ 8192 ∧ ∀ s ∈ e.dl, stepMay s = true

theorem tells_no {P : Prop} {w w' : World} (h : ¬ P) (hb : Below w.heap.size w w') : Tells P w (.returned (.bool false)) w' := ⟨hb, .inr ⟨rfl, h⟩⟩
theorem tells_yes {P : Prop} {w w' : World} (h : P) (hb : Below w.heap.size w w') : Tells P w (.returned (.bool true)) w' := ⟨hb, .inl ⟨rfl, h⟩⟩

set_option maxRecDepth 100000 in
set_option maxHeartbeats 2000000 in
theorem entryMay_any (cl sq : Int) (ed : List C) (ss : List St) (ep : Option Addr) (en ec : Nat) (p : Option Addr) (n cap : Nat) (he : ed.length = en) (hn : ss.length = n) (w : World) (hE : RowC w ep ed) (h : StepsR w p ss) (hk : ∀ s ∈ ss, s.kids.length ≤ 140737488355328) (hl : n ≤ 140737488355328) : Calls Tryz.prog 47 #[enV cl sq ep en ec p n cap] w (Tells (EnMay ⟨cl, sq, ed, ss⟩) w) := by
  have NO : Hid (∀ {e w'}, e = .returned (.bool false) → Below w.heap.size w w' → ¬ EnMay ⟨cl, sq, ed, ss⟩ → Tells (EnMay ⟨cl, sq, ed, ss⟩) w e w') := Lib.hid (fun h1 h2 h3 => ⟨h2, .inr ⟨h1, h3⟩⟩)
  have RM : Hid (∀ W, Bl w W → Calls Tryz.prog 46 #[.slice ep en ec] W (K.MayPost ed W)) := Lib.hid (fun W hW => by
    subst he
    exact rcmay_any ep ed ec W (rowC_below hE hW))
  have R := Lib.hid h; have HN := Lib.hid hn; have HK := Lib.hid hk
  clear h hn hk hE he
  have B0 : Hid (Below w.heap.size w (w.alloc (.cells #[.int .i64 cl, .int .i64 sq, .slice ep en ec, .slice p n cap] 54))) := Lib.hid (below1 (Below.refl _ _) (Nat.le_refl _) _)
  unfold enV
  by_cases a1 : 0 ≤ cl
  case neg =>
    go_enter Tryz.func47, Tryz.ntmps47
    go_wp2_with fail
    go_ret
    exact NO.out rfl B0.out (fun h => by have := h.1; dsimp only at this; omega)
  by_cases a2 : cl < 3
  case neg =>
    go_enter Tryz.func47, Tryz.ntmps47
    go_wp2_with fail
    go_ret
    exact NO.out rfl B0.out (fun h => by have := h.2.1; dsimp only at this; omega)
  by_cases a3 : 1 ≤ sq
  case neg =>
    go_enter Tryz.func47, Tryz.ntmps47
    go_wp2_with fail
    go_ret
    exact NO.out rfl B0.out (fun h => by have := h.2.2.1; dsimp only at this; omega)
  by_cases a4 : sq ≤ 4096
  case neg =>
    go_enter Tryz.func47, Tryz.ntmps47
    go_wp2_with fail
    go_ret
    exact NO.out rfl B0.out (fun h => by have := h.2.2.2.1; dsimp only at this; omega)
  go_enter Tryz.func47, Tryz.ntmps47
  go_wp2_with fail
  refine (RM.out _ B0.out).mono ?_
  rintro e w1 ⟨hb1, ⟨rfl, hm⟩ | ⟨rfl, hm⟩⟩
  case inr =>
    have B1 := Lib.hid (B0.out.trans (hb1.mono B0.out.size))
    clear hb1
    go_wp2_with fail
    go_ret
    exact NO.out rfl B1.out (fun h => hm h.2.2.2.2.1)
  have X0 := Lib.hid (heap_later (heap_alloc_new w (.cells #[.int .i64 cl, .int .i64 sq, .slice ep en ec, .slice p n cap] 54)) hb1)
  have B1 := Lib.hid (B0.out.trans (hb1.mono B0.out.size))
  have MP := Lib.hid hm
  clear hb1 hm
  have c3 := (obj_cells X0.out).1 3 _ rfl
  by_cases a5 : n ≤ 8192
  case neg =>
    go_wp2_with fail
    go_ret
    exact NO.out rfl B1.out (fun h => by have := h.2.2.2.2.2.1; dsimp only at this; rw [HN.out] at this; omega)
  have hn0 : (0 : Int) ≤ (n : Int) := by omega
  go_upto_region 4 with fail
  go_loopw [3] (fun a wr => ∃ (i : Nat), i ≤ n ∧ a = .int .i64 i ∧ Hid (∀ (j : Nat) s, j < i → ss[j]? = some s → stepMay s = true) ∧ Hid (Bl w1 wr)) (fun a _ => n - (intOf a).toNat)
  case atStart => exact ⟨0, by omega, rfl, Lib.hid (fun j s hj => absurd hj (Nat.not_lt_zero _)), Lib.hid (Bl.refl _)⟩
  case round =>
    obtain ⟨i, hi, rfl, D, B⟩ := hrel
    have c4 := B.out.cell c3
    by_cases hlt : i < n
    · obtain ⟨x, hx⟩ : ∃ x, ss[i]? = some x := ⟨_, List.getElem?_eq_getElem (by rw [HN.out]; exact hlt)⟩
      obtain ⟨ab, ao, kp, kc, rfl, hat, hrow⟩ := R.out i x hx
      have b1 : Bl w wr := B1.out.trans (Below.mono B.out B1.out.size)
      have m1 := hat.below b1
      have n0 : wr.cell? ⟨ab, ao + i * 6, none⟩ = some (.int .i64 x.kd) := m1 0 _ rfl
      have n1 : wr.cell? ⟨ab, ao + i * 6 + 1, none⟩ = some (.int .i64 x.id) := m1 1 _ rfl
      have n2 : wr.cell? ⟨ab, ao + i * 6 + 2, none⟩ = some (.int .i64 x.nd) := m1 2 _ rfl
      have n3 : wr.cell? ⟨ab, ao + i * 6 + 3, none⟩ = some (.int .i64 x.fr) := m1 3 _ rfl
      have n4 : wr.cell? ⟨ab, ao + i * 6 + 4, none⟩ = some (.int .i64 (St.to x)) := m1 4 _ rfl
      have n5 : wr.cell? ⟨ab, ao + i * 6 + 5, none⟩ = some (.slice kp x.kids.length kc) := m1 5 _ rfl
      have hi0 : (0 : Int) ≤ (i : Int) := by omega
      have hi1 : (i : Int) < (n : Int) := by omega
      have SM : Hid (∀ W, Bl wr W → Calls Tryz.prog 97 #[.agg #[.int .i64 x.kd, .int .i64 x.id, .int .i64 x.nd, .int .i64 x.fr, .int .i64 (St.to x), .slice kp x.kids.length kc]] W (RetBelow (.returned (.bool (stepMay x))) W)) := Lib.hid (fun W hW => stepMay_any x kp kc W ((hrow.below b1).below hW) (HK.out x (List.mem_of_getElem? hx)))
      have HX := Lib.hid hx
      clear m1 hat hrow hx b1
      generalize hkn : x.kids.length = kn at n5 SM
      clear hkn
      cases hsm : stepMay x with
      | false =>
        rw [hsm] at SM
        have SF := Lib.hid hsm
        clear hsm
        go_wp2_with (go_at_call 97; refine (SM.out _ (Bl.refl _)).mono ?_; rintro e w5 ⟨rfl, hb5⟩; have B5 := Lib.hid hb5; clear hb5)
        go_ret
        exact NO.out rfl (B1.out.trans (Below.mono (B.out.trans (Below.mono B5.out B.out.size)) B1.out.size)) (fun h => by
          have := h.2.2.2.2.2.2 x (List.mem_of_getElem? HX.out)
          rw [SF.out] at this
          cases this)
      | true =>
        rw [hsm] at SM
        have SF := Lib.hid hsm
        clear hsm
        go_wp2_with (go_at_call 97; refine (SM.out _ (Bl.refl _)).mono ?_; rintro e w5 ⟨rfl, hb5⟩; have B5 := Lib.hid hb5; clear hb5)
        go_roundw
        case rel =>
          refine ⟨i + 1, by omega, by go_num, Lib.hid (fun j s hj hs => ?_), Lib.hid (B.out.trans (Below.mono B5.out B.out.size))⟩
          by_cases hji : j = i
          · subst hji
            rw [HX.out] at hs
            cases hs
            exact SF.out
          · exact D.out j s (by omega) hs
        case measure => simp [intOf]; omega
    · go_wp2_with fail
      go_ret
      refine tells_yes ⟨a1, a2, a3, a4, MP.out, by dsimp only; rw [HN.out]; exact a5, fun s hs => ?_⟩ (B1.out.trans (Below.mono B.out B1.out.size))
      obtain ⟨j, hj⟩ := List.mem_iff_getElem?.1 hs
      exact D.out j s (by have := (List.getElem?_eq_some_iff.1 hj).1; rw [HN.out] at this; omega) hj

set_option maxHeartbeats 1000000 in
theorem noTree_any (root next : Int) (p : Option Addr) (n cap : Nat) (hl : n ≤ 140737488355328) (w : World) : Calls Tryz.prog 45 #[trV root next p n cap] w (Tells (root = 0 ∧ next = 0 ∧ n = 0) w) := by
  unfold trV
  by_cases a1 : root = 0
  case neg =>
    go_enter Tryz.func45, Tryz.ntmps45
    go_wp2_with fail
    go_ret
    exact ⟨below1 (Below.refl _ _) (Nat.le_refl _) _, .inr ⟨retB (by simp), fun h => a1 h.1⟩⟩
  by_cases a2 : next = 0
  case neg =>
    go_enter Tryz.func45, Tryz.ntmps45
    go_wp2_with fail
    go_ret
    exact ⟨below1 (Below.refl _ _) (Nat.le_refl _) _, .inr ⟨retB (by simp), fun h => a2 h.2.1⟩⟩
  by_cases a3 : n = 0
  case neg =>
    subst a1 a2
    go_enter Tryz.func45, Tryz.ntmps45
    go_wp2_with fail
    go_ret
    exact ⟨below1 (Below.refl _ _) (Nat.le_refl _) _, .inr ⟨retB (by simp [a3]), fun h => a3 h.2.2⟩⟩
  subst a1 a2 a3
  go_enter Tryz.func45, Tryz.ntmps45
  go_wp2_with fail
  go_ret
  exact ⟨below1 (Below.refl _ _) (Nat.le_refl _) _, .inl ⟨retB (by simp), by simp⟩⟩

end Go.Proofs.YtjmfjlffcopnnaaGreatDoor

namespace Go.Proofs.YtjmfjlffcopnnaaGreatDoor
open Go.RowKit
open Go.Proofs.YtjmfjlffcopnnaaGreatDoor.K (C RowC PieceAt MayP rcmay_any)

/-- Where a message's rows lie. -/
structure Mq where
  ep : Option Addr
  ec : Nat
  sp : Option Addr
  sc : Nat
  np : Option Addr
  nc : Nat
/-- A message as a value. -/
def msV (m : Ms) (q : Mq) : Value := .agg #[.int .i64 m.kd, .int .i64 m.cl, .int .i64 m.rv, .int .i64 m.sq, .int .i64 m.fr, .int .i64 m.ls, .bool m.rf, .slice q.ep m.ed.length q.ec, .slice q.sp m.es.length q.sc, .string m.tx, .int .i64 m.ro, .int .i64 m.nx, .slice q.np m.ns.length q.nc]
structure MsR (w : World) (m : Ms) (q : Mq) : Prop where
  ed : RowC w q.ep m.ed
  es : EntsR w q.sp m.es
  ns : NodesR w q.np m.ns
theorem MsR.below {w w' : World} {m : Ms} {q : Mq} (h : MsR w m q) (hb : Below w.heap.size w w') : MsR w' m q := ⟨rowC_below h.ed hb, h.es.below hb, h.ns.below hb⟩
/-- No longer than a computer's memory. -/
structure MsZ (m : Ms) : Prop where
  ed : m.ed.length ≤ 140737488355328
  es : m.es.length ≤ 140737488355328
  ns : m.ns.length ≤ 140737488355328
  tx : m.tx.size ≤ 140737488355328
  kids : ∀ x ∈ m.ns, x.kids.length ≤ 140737488355328
  each : ∀ e ∈ m.es, e.ed.length ≤ 140737488355328 ∧ e.dl.length ≤ 140737488355328 ∧ ∀ s ∈ e.dl, s.kids.length ≤ 140737488355328
def MsHead (m : Ms) : Prop := 0 ≤ m.cl ∧ m.cl < 3 ∧ 0 ≤ m.rv ∧ m.rv ≤ 4096 ∧ 0 ≤ m.sq ∧ m.sq ≤ 4096
def MsBare (m : Ms) : Prop := m.fr = 0 ∧ m.ls = 0 ∧ m.rf = false ∧ m.tx = ⟨#[]⟩ ∧ m.ro = 0 ∧ m.nx = 0 ∧ m.ns.length = 0
def MsMay (m : Ms) : Prop := MsHead m ∧
  ((m.kd = 0 ∧ MsBare m ∧ m.es.length = 0 ∧ MayP m.ed ∧ (0 < m.sq ∨ m.ed.length = 0))
  ∨ (m.kd = 1 ∧ MsBare m ∧ m.ed.length = 0 ∧ m.sq = 0 ∧ m.es.length ≤ 3 ∧ ∀ e ∈ m.es, EnMay e)
  ∨ (m.kd = 2 ∧ m.es.length = 0 ∧ m.ed.length = 0 ∧ 0 ≤ m.fr ∧ m.fr ≤ 4096 ∧ 0 ≤ m.ls ∧ m.ls ≤ 4096 ∧ m.tx.size ≤ 300 ∧ mayB m.ns m.ro m.nx m.tx.size = true))
/-- MsgMay's answer. -/
def MmC (m : Ms) (q : Mq) (w : World) : Prop := Calls Tryz.prog 13 #[msV m q] w (Tells (MsMay m) w)

theorem empty_list {t : ByteArray} (h : t.toList = []) : t = ⟨#[]⟩ := by
  have h1 := K.isEmpty_size t
  rw [h] at h1
  have h2 : t.size = 0 := of_decide_eq_true h1.symm
  apply ByteArray.ext
  exact Array.eq_empty_of_size_eq_zero h2

set_option maxRecDepth 100000 in
set_option maxHeartbeats 4000000 in
theorem msgMay_head (m : Ms) (q : Mq) (w : World) (hh : ¬ MsHead m) : MmC m q w := by
  have NO : Hid (¬ MsMay m) := Lib.hid (fun h => hh h.1)
  unfold MmC
  generalize MsMay m = P at NO ⊢
  obtain ⟨kd, cl, rv, sq, fr, ls, rf, tx, ro, nx, ns, ed, es⟩ := m
  obtain ⟨ep, ec, sp, sc, np, nc⟩ := q
  unfold msV
  simp only [MsHead] at hh
  dsimp only
  generalize ed.length = en
  generalize es.length = sn
  generalize ns.length = nn
  have HH := Lib.hid hh
  clear hh
  by_cases a1 : 0 ≤ cl
  case neg =>
    go_enter Tryz.func13, Tryz.ntmps13
    go_wp2_with fail
    go_ret
    exact tells_no NO.out (below1 (Below.refl _ _) (Nat.le_refl _) _)
  by_cases a2 : cl < 3
  case neg =>
    go_enter Tryz.func13, Tryz.ntmps13
    go_wp2_with fail
    go_ret
    exact tells_no NO.out (below1 (Below.refl _ _) (Nat.le_refl _) _)
  by_cases a3 : 0 ≤ rv
  case neg =>
    go_enter Tryz.func13, Tryz.ntmps13
    go_wp2_with fail
    go_ret
    exact tells_no NO.out (below1 (Below.refl _ _) (Nat.le_refl _) _)
  by_cases a4 : rv ≤ 4096
  case neg =>
    go_enter Tryz.func13, Tryz.ntmps13
    go_wp2_with fail
    go_ret
    exact tells_no NO.out (below1 (Below.refl _ _) (Nat.le_refl _) _)
  by_cases a5 : 0 ≤ sq
  case neg =>
    go_enter Tryz.func13, Tryz.ntmps13
    go_wp2_with fail
    go_ret
    exact tells_no NO.out (below1 (Below.refl _ _) (Nat.le_refl _) _)
  by_cases a6 : sq ≤ 4096
  case neg =>
    go_enter Tryz.func13, Tryz.ntmps13
    go_wp2_with fail
    go_ret
    exact tells_no NO.out (below1 (Below.refl _ _) (Nat.le_refl _) _)
  exact absurd ⟨a1, a2, a3, a4, a5, a6⟩ HH.out

set_option maxRecDepth 100000 in
set_option maxHeartbeats 4000000 in
theorem msgMay_bare (m : Ms) (q : Mq) (w : World) (hz : MsZ m) (hh : MsHead m) (hk : ¬ m.kd = 2) (hb : ¬ MsBare m) : MmC m q w := by
  have NO : Hid (¬ MsMay m) := Lib.hid (fun h => by
    rcases h.2 with h | h | h
    · exact hb h.2.1
    · exact hb h.2.1
    · exact hk h.1)
  have hnl := hz.ns
  unfold MmC
  generalize MsMay m = P at NO ⊢
  obtain ⟨kd, cl, rv, sq, fr, ls, rf, tx, ro, nx, ns, ed, es⟩ := m
  obtain ⟨ep, ec, sp, sc, np, nc⟩ := q
  unfold msV
  obtain ⟨a1, a2, a3, a4, a5, a6⟩ := hh
  simp only [MsBare] at hb
  dsimp only at *
  clear hz
  generalize ed.length = en
  generalize es.length = sn
  generalize ns.length = nn at *
  have HB := Lib.hid hb
  have hk2 : (kd == 2) = false := by simpa using hk
  clear hb hk
  by_cases b1 : fr = 0
  case neg =>
    have bx : (fr != 0) = true := by simpa using b1
    go_enter Tryz.func13, Tryz.ntmps13
    go_wp2_with fail
    go_ret
    exact tells_no NO.out (below1 (Below.refl _ _) (Nat.le_refl _) _)
  by_cases b2 : ls = 0
  case neg =>
    have bx : (ls != 0) = true := by simpa using b2
    go_enter Tryz.func13, Tryz.ntmps13
    go_wp2_with fail
    go_ret
    exact tells_no NO.out (below1 (Below.refl _ _) (Nat.le_refl _) _)
  cases hrf : rf with
  | true =>
    subst b1 b2 hrf
    go_enter Tryz.func13, Tryz.ntmps13
    go_wp2_with fail
    go_ret
    exact tells_no NO.out (below1 (Below.refl _ _) (Nat.le_refl _) _)
  | false =>
    subst b1 b2 hrf
    by_cases b3 : tx = ⟨#[]⟩
    case neg =>
      have b4 : ¬ tx.toList = [] := fun e => b3 (empty_list e)
      go_enter Tryz.func13, Tryz.ntmps13
      go_wp2_with fail
      all_goals
        go_ret
        exact tells_no NO.out (below1 (Below.refl _ _) (Nat.le_refl _) _)
    subst b3
    have NT : Hid (∀ W, Calls Tryz.prog 45 #[.agg #[.int .i64 ro, .int .i64 nx, .slice np nn nc]] W (Tells (ro = 0 ∧ nx = 0 ∧ nn = 0) W)) := Lib.hid (fun W => noTree_any ro nx np nn nc hnl W)
    go_enter Tryz.func13, Tryz.ntmps13
    go_wp2_with (go_at_call 45; refine (NT.out _).mono ?_; rintro e w1 ⟨hb1, ⟨rfl, hy⟩ | ⟨rfl, hy⟩⟩; (exact absurd ⟨rfl, rfl, rfl, rfl, hy.1, hy.2.1, hy.2.2⟩ HB.out); have B1 := Lib.hid hb1; clear hb1)
    go_ret
    exact tells_no NO.out ((below1 (Below.refl _ _) (Nat.le_refl _) _).trans (B1.out.mono (below1 (Below.refl _ _) (Nat.le_refl _) _).size))

end Go.Proofs.YtjmfjlffcopnnaaGreatDoor

namespace Go.Proofs.YtjmfjlffcopnnaaGreatDoor
open Go.RowKit
open Go.Proofs.YtjmfjlffcopnnaaGreatDoor.K (C RowC PieceAt MayP rcmay_any)

set_option maxRecDepth 100000 in
set_option maxHeartbeats 4000000 in
theorem msgMay_snap (m : Ms) (q : Mq) (w : World) (hz : MsZ m) (hr : MsR w m q) (hh : MsHead m) (hk : m.kd = 2) : MmC m q w := by
  have HM : Hid (MsMay m ↔ (m.es.length = 0 ∧ m.ed.length = 0 ∧ 0 ≤ m.fr ∧ m.fr ≤ 4096 ∧ 0 ≤ m.ls ∧ m.ls ≤ 4096 ∧ m.tx.size ≤ 300 ∧ mayB m.ns m.ro m.nx m.tx.size = true)) := Lib.hid ⟨fun h => by
    rcases h.2 with h | h | h
    · rw [hk] at h; cases h.1
    · rw [hk] at h; cases h.1
    · exact h.2, fun h => ⟨hh, .inr (.inr ⟨hk, h⟩)⟩⟩
  have hnl := hz.ns
  have hkl := Lib.hid hz.kids
  have htl := hz.tx
  have hel := hz.ed
  have hsl := hz.es
  have NR := Lib.hid hr.ns
  unfold MmC
  generalize MsMay m = P at HM ⊢
  obtain ⟨kd, cl, rv, sq, fr, ls, rf, tx, ro, nx, ns, ed, es⟩ := m
  obtain ⟨ep, ec, sp, sc, np, nc⟩ := q
  unfold msV
  obtain ⟨a1, a2, a3, a4, a5, a6⟩ := hh
  dsimp only at *
  subst hk
  clear hz hr
  have TM : Hid (∀ W, Bl w W → Calls Tryz.prog 48 #[.agg #[.int .i64 ro, .int .i64 nx, .slice np ns.length nc], .int .i64 tx.size] W (RetBelow (.returned (.bool (mayB ns ro nx tx.size))) W)) := Lib.hid (fun W hW => treeMay_any ro nx tx.size np ns ns.length nc rfl W (NR.out.below hW) hnl hkl.out)
  generalize ed.length = en at *
  generalize es.length = sn at *
  generalize ns.length = nn at *
  by_cases b1 : sn = 0
  case neg =>
    have b0 : 0 < sn := by omega
    go_enter Tryz.func13, Tryz.ntmps13
    go_wp2_with fail
    go_ret
    exact tells_no (fun h => by have := (HM.out.1 h).1; omega) (below1 (Below.refl _ _) (Nat.le_refl _) _)
  subst b1
  by_cases b2 : en = 0
  case neg =>
    have b0 : 0 < en := by omega
    go_enter Tryz.func13, Tryz.ntmps13
    go_wp2_with fail
    go_ret
    exact tells_no (fun h => by have := (HM.out.1 h).2.1; omega) (below1 (Below.refl _ _) (Nat.le_refl _) _)
  subst b2
  by_cases b3 : 0 ≤ fr
  case neg =>
    go_enter Tryz.func13, Tryz.ntmps13
    go_wp2_with fail
    go_ret
    exact tells_no (fun h => by have := (HM.out.1 h).2.2.1; omega) (below1 (Below.refl _ _) (Nat.le_refl _) _)
  by_cases b4 : fr ≤ 4096
  case neg =>
    go_enter Tryz.func13, Tryz.ntmps13
    go_wp2_with fail
    go_ret
    exact tells_no (fun h => by have := (HM.out.1 h).2.2.2.1; omega) (below1 (Below.refl _ _) (Nat.le_refl _) _)
  by_cases b5 : 0 ≤ ls
  case neg =>
    go_enter Tryz.func13, Tryz.ntmps13
    go_wp2_with fail
    go_ret
    exact tells_no (fun h => by have := (HM.out.1 h).2.2.2.2.1; omega) (below1 (Below.refl _ _) (Nat.le_refl _) _)
  by_cases b6 : ls ≤ 4096
  case neg =>
    go_enter Tryz.func13, Tryz.ntmps13
    go_wp2_with fail
    go_ret
    exact tells_no (fun h => by have := (HM.out.1 h).2.2.2.2.2.1; omega) (below1 (Below.refl _ _) (Nat.le_refl _) _)
  by_cases b7 : tx.size ≤ 300
  case neg =>
    go_enter Tryz.func13, Tryz.ntmps13
    go_wp2_with fail
    go_ret
    exact tells_no (fun h => by have := (HM.out.1 h).2.2.2.2.2.2.1; omega) (below1 (Below.refl _ _) (Nat.le_refl _) _)
  cases hmb : mayB ns ro nx tx.size with
  | false =>
    rw [hmb] at TM
    have MB := Lib.hid hmb
    clear hmb
    go_enter Tryz.func13, Tryz.ntmps13
    go_wp2_with (go_at_call 48; refine (TM.out _ (Bl.alloc (Bl.refl _) _)).mono ?_; rintro e w1 ⟨rfl, hb1⟩; have B1 := Lib.hid hb1; clear hb1)
    go_ret
    exact tells_no (fun h => by have h2 := (HM.out.1 h).2.2.2.2.2.2.2; rw [MB.out] at h2; cases h2) ((below1 (Below.refl _ _) (Nat.le_refl _) _).trans (B1.out.mono (below1 (Below.refl _ _) (Nat.le_refl _) _).size))
  | true =>
    rw [hmb] at TM
    have MB := Lib.hid hmb
    clear hmb
    go_enter Tryz.func13, Tryz.ntmps13
    go_wp2_with (go_at_call 48; refine (TM.out _ (Bl.alloc (Bl.refl _) _)).mono ?_; rintro e w1 ⟨rfl, hb1⟩; have B1 := Lib.hid hb1; clear hb1)
    go_ret
    exact tells_yes (HM.out.2 ⟨by simp, by simp, b3, b4, b5, b6, b7, MB.out⟩) ((below1 (Below.refl _ _) (Nat.le_refl _) _).trans (B1.out.mono (below1 (Below.refl _ _) (Nat.le_refl _) _).size))

end Go.Proofs.YtjmfjlffcopnnaaGreatDoor
