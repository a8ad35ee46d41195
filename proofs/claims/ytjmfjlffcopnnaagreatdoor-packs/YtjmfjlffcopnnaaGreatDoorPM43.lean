/-
  Qt, Qu, in one text. Conditions: as each theorem's premises say.
-/
import Derived.Test.YtjmfjlffcopnnaaGreatDoorPM42
import Derived.Test.YtjmfjlffcopnnaaGreatDoorPM19
import Derived.Deep.CutBlock
import Derived.Deep.DeepCutAuto
namespace Go.Proofs.YtjmfjlffcopnnaaGreatDoor
open Go.RowKit
open Go.Proofs.YtjmfjlffcopnnaaGreatDoor.K (C RowC MayP)

/-- An entry no longer than a computer's memory. -/
def EnZ (e : En) : Prop := e.ed.length ≤ 140737488355328 ∧ e.dl.length ≤ 140737488355328 ∧ ∀ s ∈ e.dl, s.kids.length ≤ 140737488355328
theorem ncount_is (x : Int) {c : Bool} (h : decide (0 ≤ x ∧ x ≤ 4096) = c) (w : World) : Calls Tryz.prog 41 #[.int .i64 x] w (fun e w' => e = .returned (.bool c) ∧ w' = w) := by rw [← h]; exact ncount_any x w
theorem nclient_is (x : Int) {c : Bool} (h : decide (0 ≤ x ∧ x < 3) = c) (w : World) : Calls Tryz.prog 43 #[.int .i64 x] w (fun e w' => e = .returned (.bool c) ∧ w' = w) := by rw [← h]; exact nclient_any x w
set_option maxRecDepth 100000 in
set_option maxHeartbeats 4000000 in
theorem nent_any (x : En) (ep : Option Addr) (ec : Nat) (dp : Option Addr) (dc : Nat) (w : World) (hr : RowC w ep x.ed) (hs : StepsR w dp x.dl) (hz : EnZ x) : Calls Tryz.prog 40 #[.agg #[.int .i64 x.cl, .int .i64 x.sq, .slice ep x.ed.length ec, .slice dp x.dl.length dc]] w (Tells (EnMay x) w) := by
  obtain ⟨cl, sq, ed, dl⟩ := x
  obtain ⟨z1, z2, z3⟩ := hz
  dsimp only at *
  have NO : Hid (∀ {e w'}, e = .returned (.bool false) → Bl w w' → ¬ EnMay ⟨cl, sq, ed, dl⟩ → Tells (EnMay ⟨cl, sq, ed, dl⟩) w e w') := Lib.hid (fun h1 h2 h3 => ⟨h2, .inr ⟨h1, h3⟩⟩)
  have YES : Hid (∀ {e w'}, e = .returned (.bool true) → Bl w w' → EnMay ⟨cl, sq, ed, dl⟩ → Tells (EnMay ⟨cl, sq, ed, dl⟩) w e w') := Lib.hid (fun h1 h2 h3 => ⟨h2, .inl ⟨h1, h3⟩⟩)
  have RM : Hid (∀ W, Bl w W → Calls Tryz.prog 38 #[.slice ep ed.length ec] W (K.MayPost ed W)) := Lib.hid (fun W hW => K.may_any ep ed ec W (rowC_below hr hW))
  have RS : Hid (∀ W, Bl w W → Calls Tryz.prog 91 #[.slice dp dl.length dc, .func (.func 92) #[] #[]] W (Tells (∀ x ∈ dl, stepMay x = true) W)) := Lib.hid (fun W hW => nevs_any dl dp dl.length dc rfl z2 W (hs.below hW) z3)
  generalize hen : ed.length = en at *
  generalize hdn : dl.length = dn at *
  have DN := Lib.hid hdn
  have BX : Hid (Bl w (w.alloc (.cells #[.int .i64 cl, .int .i64 sq, .slice ep en ec, .slice dp dn dc] 54))) := Lib.hid (Bl.alloc (Bl.refl w) _)
  have XB : Hid ((w.alloc (.cells #[.int .i64 cl, .int .i64 sq, .slice ep en ec, .slice dp dn dc] 54)).heap[w.heap.size]? = some (.cells #[.int .i64 cl, .int .i64 sq, .slice ep en ec, .slice dp dn dc] 54 (0, 0))) := Lib.hid (heap_alloc_new w _)
  clear hen hdn hr hs z1 z3
  cases q1 : decide (0 ≤ cl ∧ cl < 3) with
  | false =>
    have C1 := Lib.hid (nclient_is cl q1)
    have Q1 := Lib.hid (of_decide_eq_false q1)
    clear q1
    go_enter Tryz.func40, Tryz.ntmps40
    go_wp2_with (go_at_call 43; refine (C1.out _).mono ?_; rintro e w2 ⟨rfl, rfl⟩)
    go_ret
    exact NO.out rfl BX.out (fun h => Q1.out ⟨h.1, h.2.1⟩)
  | true =>
  have C1 := Lib.hid (nclient_is cl q1)
  have Q1 := Lib.hid (of_decide_eq_true q1)
  clear q1
  cases q2 : decide (0 ≤ sq ∧ sq ≤ 4096) with
  | false =>
    have C2 := Lib.hid (ncount_is sq q2)
    have Q2 := Lib.hid (of_decide_eq_false q2)
    clear q2
    go_enter Tryz.func40, Tryz.ntmps40
    go_wp2_with (first | (go_at_call 43; refine (C1.out _).mono ?_; rintro e w2 ⟨rfl, rfl⟩) | (go_at_call 41; refine (C2.out _).mono ?_; rintro e w2 ⟨rfl, rfl⟩))
    go_ret
    exact NO.out rfl BX.out (fun h => Q2.out ⟨by have := h.2.2.1; dsimp only at this; omega, h.2.2.2.1⟩)
  | true =>
  have C2 := Lib.hid (ncount_is sq q2)
  have Q2 := Lib.hid (of_decide_eq_true q2)
  clear q2
  by_cases a3 : 0 < sq
  case neg =>
    go_enter Tryz.func40, Tryz.ntmps40
    go_wp2_with (first | (go_at_call 43; refine (C1.out _).mono ?_; rintro e w2 ⟨rfl, rfl⟩) | (go_at_call 41; refine (C2.out _).mono ?_; rintro e w2 ⟨rfl, rfl⟩))
    go_ret
    exact NO.out rfl BX.out (fun h => by have := h.2.2.1; dsimp only at this; omega)
  by_cases a5 : dn ≤ 8192
  case neg =>
    go_enter Tryz.func40, Tryz.ntmps40
    go_wp2_with (first | (go_at_call 43; refine (C1.out _).mono ?_; rintro e w2 ⟨rfl, rfl⟩) | (go_at_call 41; refine (C2.out _).mono ?_; rintro e w2 ⟨rfl, rfl⟩) | (go_at_call 38; refine (RM.out _ BX.out).mono ?_; rintro e w2 ⟨hb, ⟨rfl, hm⟩ | ⟨rfl, hm⟩⟩ <;> (have B2 := Lib.hid (BX.out.trans (hb.mono BX.out.size)); have HM := Lib.hid hm; have X2 := Lib.hid (heap_later XB.out hb); have c3 := (obj_cells X2.out).1 3 _ rfl; clear hb hm)))
    · go_ret
      exact NO.out rfl B2.out (fun h => by have := h.2.2.2.2.2.1; dsimp only at this; rw [DN.out] at this; omega)
    · go_ret
      exact NO.out rfl B2.out (fun h => HM.out h.2.2.2.2.1)
  go_enter Tryz.func40, Tryz.ntmps40
  go_wp2_with (first | (go_at_call 43; refine (C1.out _).mono ?_; rintro e w2 ⟨rfl, rfl⟩) | (go_at_call 41; refine (C2.out _).mono ?_; rintro e w2 ⟨rfl, rfl⟩) | (go_at_call 38; refine (RM.out _ BX.out).mono ?_; rintro e w2 ⟨hb, ⟨rfl, hm⟩ | ⟨rfl, hm⟩⟩ <;> (have B2 := Lib.hid (BX.out.trans (hb.mono BX.out.size)); have HM := Lib.hid hm; have X2 := Lib.hid (heap_later XB.out hb); have c3 := (obj_cells X2.out).1 3 _ rfl; clear hb hm)) | (go_at_call 91; refine (RS.out _ B2.out).mono ?_; rintro e w3 ⟨hb, ⟨rfl, hm⟩ | ⟨rfl, hm⟩⟩ <;> (have B3 := Lib.hid (B2.out.trans (hb.mono B2.out.size)); have HS := Lib.hid hm; clear hb hm)))
  · go_ret
    exact YES.out rfl B3.out ⟨Q1.out.1, Q1.out.2, by dsimp only; omega, Q2.out.2, HM.out, by dsimp only; rw [DN.out]; exact a5, HS.out⟩
  · go_ret
    exact NO.out rfl B3.out (fun h => HS.out h.2.2.2.2.2.2)
  · go_ret
    exact NO.out rfl B2.out (fun h => HM.out h.2.2.2.2.1)
set_option maxRecDepth 100000 in
set_option maxHeartbeats 4000000 in
theorem ncle_any (x : En) (ep : Option Addr) (ec : Nat) (dp : Option Addr) (dc : Nat) (fb : Nat) (w : World) (hf : w.heap[fb]? = some (.cells #[.func (.func 40) #[] #[]] 85 (0, 0))) (hr : RowC w ep x.ed) (hs : StepsR w dp x.dl) (hz : EnZ x) : Calls Tryz.prog 90 #[.agg #[.int .i64 x.cl, .int .i64 x.sq, .slice ep x.ed.length ec, .slice dp x.dl.length dc], .pointer (some ⟨fb, 0, none⟩)] w (Tells (¬ EnMay x) w) := by
  have hr := Lib.hid hr; have hs := Lib.hid hs
  have F := Lib.hid hf
  clear hf
  have B0 : Hid (Bl w (w.alloc (.cells #[.int .i64 x.cl, .int .i64 x.sq, .slice ep x.ed.length ec, .slice dp x.dl.length dc] 54))) := Lib.hid (Bl.alloc (Bl.refl w) _)
  have ON := Lib.hid (fun (W : World) (hW : Bl w W) => (nent_any x ep ec dp dc W (rowC_below hr.out hW) (hs.out.below hW) hz))
  clear hz
  clear hr hs
  have f0 : (w.alloc (.cells #[.int .i64 x.cl, .int .i64 x.sq, .slice ep x.ed.length ec, .slice dp x.dl.length dc] 54)).cell? ⟨fb, 0, none⟩ = some (.func (.func 40) #[] #[]) := (obj_cells (heap_later F.out B0.out)).1 0 _ rfl
  go_enter Tryz.func90, Tryz.ntmps90
  go_wp2_with (go_at_call 40; refine (ON.out _ B0.out).mono ?_; rintro e w2 ⟨hb, ⟨rfl, h1⟩ | ⟨rfl, h1⟩⟩ <;> (have B2 := Lib.hid (B0.out.trans (hb.mono B0.out.size)); have H1 := Lib.hid h1; clear hb h1))
  · go_ret
    exact tells_no (fun h => h H1.out) B2.out
  · go_ret
    exact tells_yes H1.out B2.out
def NIxE (l : List En) (w : World) (en : Ending) (w' : World) : Prop := Bl w w' ∧ ((∃ i : Nat, en = .returned (.int .i64 i) ∧ ¬ ∀ x ∈ l, EnMay x) ∨ (en = .returned (.int .i64 (-1)) ∧ ∀ x ∈ l, EnMay x))
set_option maxRecDepth 100000 in
set_option maxHeartbeats 4000000 in
theorem nixe_any (l : List En) (p : Option Addr) (n cap : Nat) (hn : l.length = n) (hl : n ≤ 140737488355328) (fb : Nat) (w : World) (hf : w.heap[fb]? = some (.cells #[.func (.func 40) #[] #[]] 85 (0, 0))) (h : EntsR w p l) (hk : ∀ e ∈ l, EnZ e) : Calls Tryz.prog 122 #[.slice p n cap, .func (.func 90) #[] #[.pointer (some ⟨fb, 0, none⟩)]] w (NIxE l w) := by
  have F := Lib.hid hf; have R := Lib.hid h; have HN := Lib.hid hn; have HK := Lib.hid hk
  clear hf h hn hk
  go_enter Tryz.func122, Tryz.ntmps122
  go_wp2_with fail
  go_loopw [8, 5] (fun v _ wr => ∃ i : Nat, i ≤ n ∧ v = .int .i64 i ∧ Hid (∀ (j : Nat) x, j < i → l[j]? = some x → EnMay x) ∧ Hid (Bl w wr)) (fun v _ _ => n - (intOf v).toNat)
  case atStart => exact ⟨0, by omega, rfl, Lib.hid (fun j x hj => absurd hj (Nat.not_lt_zero _)), Lib.hid (Bl.refl _)⟩
  case round =>
    obtain ⟨i, hi, rfl, D, B⟩ := hrel
    by_cases hlt : i < n
    · obtain ⟨x, hx⟩ : ∃ x, l[i]? = some x := ⟨_, List.getElem?_eq_getElem (by rw [HN.out]; exact hlt)⟩
      obtain ⟨ab, ao, ep, ec, dp, dc, rfl, hat, hrow, hst⟩ := R.out i x hx
      have m1 := hat.below B.out
      have n0 : wr.cell? ⟨ab, ao + i * 4, none⟩ = some (.int .i64 x.cl) := m1 0 _ rfl
      have n1 : wr.cell? ⟨ab, ao + i * 4 + 1, none⟩ = some (.int .i64 x.sq) := m1 1 _ rfl
      have n2 : wr.cell? ⟨ab, ao + i * 4 + 2, none⟩ = some (.slice ep x.ed.length ec) := m1 2 _ rfl
      have n3 : wr.cell? ⟨ab, ao + i * 4 + 3, none⟩ = some (.slice dp x.dl.length dc) := m1 3 _ rfl
      have hi0 : (0 : Int) ≤ (i : Int) := by omega
      have hi1 : (i : Int) < (n : Int) := by omega
      have CC := Lib.hid (ncle_any x ep ec dp dc fb wr (heap_later F.out B.out) (rowC_below hrow B.out) (hst.below B.out) (HK.out x (List.mem_of_getElem? hx)))
      have HX := Lib.hid hx
      clear m1 hat hrow hx hst
      go_wp2_with (go_at_call 90; refine CC.out.mono ?_; rintro e w2 ⟨hb, ⟨rfl, h1⟩ | ⟨rfl, h1⟩⟩ <;> (have B2 := Lib.hid (B.out.trans (hb.mono B.out.size)); have H1 := Lib.hid h1; clear hb h1))
      · go_ret
        exact ⟨B2.out, .inl ⟨i, rfl, fun h => H1.out (h x (List.mem_of_getElem? HX.out))⟩⟩
      · go_roundw
        case rel =>
          refine ⟨i + 1, by omega, by go_num, Lib.hid (fun j y hj hy => ?_), B2⟩
          by_cases hji : j = i
          · subst hji
            rw [HX.out] at hy
            cases hy
            exact Classical.not_not.1 H1.out
          · exact D.out j y (by omega) hy
        case measure => simp [intOf]; omega
    · go_wp2_with fail
      go_ret
      refine ⟨B.out, .inr ⟨rfl, fun x hx => ?_⟩⟩
      obtain ⟨j, hj⟩ := List.mem_iff_getElem?.1 hx
      exact D.out j x (by have := (List.getElem?_eq_some_iff.1 hj).1; rw [HN.out] at this; omega) hj
set_option maxRecDepth 100000 in
set_option maxHeartbeats 4000000 in
theorem ncte_any (l : List En) (p : Option Addr) (n cap : Nat) (hn : l.length = n) (hl : n ≤ 140737488355328) (fb : Nat) (w : World) (hf : w.heap[fb]? = some (.cells #[.func (.func 40) #[] #[]] 85 (0, 0))) (h : EntsR w p l) (hk : ∀ e ∈ l, EnZ e) : Calls Tryz.prog 89 #[.slice p n cap, .func (.func 90) #[] #[.pointer (some ⟨fb, 0, none⟩)]] w (Tells (¬ ∀ x ∈ l, EnMay x) w) := by
  have D := Lib.hid (nixe_any l p n cap hn hl fb w hf h hk)
  clear hn hf h hk
  go_enter Tryz.func89, Tryz.ntmps89
  go_upto_region 1 with fail
  go_wp2_with (go_at_call 122; refine D.out.mono ?_; rintro e w2 ⟨hb, ⟨i, rfl, h1⟩ | ⟨rfl, h1⟩⟩ <;> (have B2 := Lib.hid hb; have H1 := Lib.hid h1; clear hb h1))
  · go_ret
    exact ⟨B2.out, .inl ⟨retB (by simp), H1.out⟩⟩
  · go_ret
    exact ⟨B2.out, .inr ⟨retB (by decide), fun h => h H1.out⟩⟩
set_option maxRecDepth 100000 in
set_option maxHeartbeats 4000000 in
theorem neve_any (l : List En) (p : Option Addr) (n cap : Nat) (hn : l.length = n) (hl : n ≤ 140737488355328) (w : World) (h : EntsR w p l) (hk : ∀ e ∈ l, EnZ e) : Calls Tryz.prog 39 #[.slice p n cap, .func (.func 40) #[] #[]] w (Tells (∀ x ∈ l, EnMay x) w) := by
  have B0 : Hid (Bl w (w.alloc (.cells #[.func (.func 40) #[] #[]] 85))) := Lib.hid (Bl.alloc (Bl.refl w) _)
  have D := Lib.hid (ncte_any l p n cap hn hl w.heap.size (w.alloc (.cells #[.func (.func 40) #[] #[]] 85)) (heap_alloc_new w _) (h.below B0.out) hk)
  clear hn h hk
  go_enter Tryz.func39, Tryz.ntmps39
  go_wp2_with (go_at_call 89; refine D.out.mono ?_; rintro e w2 ⟨hb, ⟨rfl, h1⟩ | ⟨rfl, h1⟩⟩ <;> (have B2 := Lib.hid (B0.out.trans (hb.mono B0.out.size)); have H1 := Lib.hid h1; clear hb h1))
  · go_ret
    exact tells_no H1.out B2.out
  · go_ret
    exact tells_yes (Classical.not_not.1 H1.out) B2.out

end Go.Proofs.YtjmfjlffcopnnaaGreatDoor

namespace Go.Proofs.YtjmfjlffcopnnaaGreatDoor
open Go.RowKit
open Go.Proofs.YtjmfjlffcopnnaaGreatDoor.K (C RowC MayP)

/-- What must be zero. -/
def Br (fr ls : Int) (rf : Bool) (en sn : Nat) (tx : ByteArray) (ro nx : Int) (nn : Nat) : Prop := fr = 0 ∧ ls = 0 ∧ rf = false ∧ en = 0 ∧ sn = 0 ∧ tx = ⟨#[]⟩ ∧ ro = 0 ∧ nx = 0 ∧ nn = 0
set_option maxRecDepth 100000 in
set_option maxHeartbeats 8000000 in
theorem nbare_any (kd cl rv sq fr ls : Int) (rf : Bool) (ep : Option Addr) (en ec : Nat) (sp : Option Addr) (sn sc : Nat) (tx : ByteArray) (ro nx : Int) (np : Option Addr) (nn nc : Nat) (h1 : en ≤ 140737488355328) (h2 : sn ≤ 140737488355328) (h3 : nn ≤ 140737488355328) (w : World) :
    Calls Tryz.prog 44 #[.agg #[.int .i64 kd, .int .i64 cl, .int .i64 rv, .int .i64 sq, .int .i64 fr, .int .i64 ls, .bool rf, .slice ep en ec, .slice sp sn sc, .string tx, .int .i64 ro, .int .i64 nx, .slice np nn nc]] w (Tells (Br fr ls rf en sn tx ro nx nn) w) := by
  by_cases a1 : fr = 0
  case neg =>
    go_enter Tryz.func44, Tryz.ntmps44
    go_wp2_with fail
    go_ret
    exact ⟨Bl.alloc (Bl.refl _) _, .inr ⟨retB (by simp), fun h => a1 h.1⟩⟩
  by_cases a2 : ls = 0
  case neg =>
    go_enter Tryz.func44, Tryz.ntmps44
    go_wp2_with fail
    go_ret
    exact ⟨Bl.alloc (Bl.refl _) _, .inr ⟨retB (by simp), fun h => a2 h.2.1⟩⟩
  subst a1 a2
  cases rf with
  | true =>
    go_enter Tryz.func44, Tryz.ntmps44
    go_wp2_with fail
    go_ret
    exact ⟨Bl.alloc (Bl.refl _) _, .inr ⟨retB (by simp), fun h => by cases h.2.2.1⟩⟩
  | false =>
  by_cases a4 : en = 0
  case neg =>
    go_enter Tryz.func44, Tryz.ntmps44
    go_wp2_with fail
    go_ret
    exact ⟨Bl.alloc (Bl.refl _) _, .inr ⟨retB (by simp), fun h => a4 h.2.2.2.1⟩⟩
  by_cases a5 : sn = 0
  case neg =>
    go_enter Tryz.func44, Tryz.ntmps44
    go_wp2_with fail
    go_ret
    exact ⟨Bl.alloc (Bl.refl _) _, .inr ⟨retB (by simp), fun h => a5 h.2.2.2.2.1⟩⟩
  by_cases a6 : tx = ⟨#[]⟩
  case neg =>
    have ne : tx.toList.isEmpty = false := by
      rw [K.isEmpty_size]
      refine decide_eq_false (fun h => a6 ?_)
      apply ByteArray.ext
      exact Array.eq_empty_of_size_eq_zero h
    go_enter Tryz.func44, Tryz.ntmps44
    go_wp2_with fail
    go_ret
    exact ⟨Bl.alloc (Bl.refl _) _, .inr ⟨retB (by simp), fun h => a6 h.2.2.2.2.2.1⟩⟩
  subst a4 a5 a6
  by_cases a7 : ro = 0
  case neg =>
    go_enter Tryz.func44, Tryz.ntmps44
    go_wp2_with fail
    go_ret
    exact ⟨Bl.alloc (Bl.refl _) _, .inr ⟨retB (by simp), fun h => a7 h.2.2.2.2.2.2.1⟩⟩
  by_cases a8 : nx = 0
  case neg =>
    go_enter Tryz.func44, Tryz.ntmps44
    go_wp2_with fail
    go_ret
    exact ⟨Bl.alloc (Bl.refl _) _, .inr ⟨retB (by simp), fun h => a8 h.2.2.2.2.2.2.2.1⟩⟩
  subst a7 a8
  by_cases a9 : nn = 0
  case neg =>
    go_enter Tryz.func44, Tryz.ntmps44
    go_wp2_with fail
    go_ret
    exact ⟨Bl.alloc (Bl.refl _) _, .inr ⟨retB (by simp [a9]), fun h => a9 h.2.2.2.2.2.2.2.2⟩⟩
  subst a9
  go_enter Tryz.func44, Tryz.ntmps44
  go_wp2_with fail
  go_ret
  exact ⟨Bl.alloc (Bl.refl _) _, .inl ⟨retB (by simp), rfl, rfl, rfl, rfl, rfl, rfl, rfl, rfl, rfl⟩⟩

theorem may_0 {cl rv sq fr ls ro nx : Int} {rf : Bool} {tx : ByteArray} {ns : List Nd} {ed : List C} {es : List En} : MsMay ⟨0, cl, rv, sq, fr, ls, rf, tx, ro, nx, ns, ed, es⟩ ↔ (MayP ed ∧ (0 < sq ∨ ed.length = 0)) ∧ MsHead ⟨0, cl, rv, sq, fr, ls, rf, tx, ro, nx, ns, ed, es⟩ ∧ Br fr ls rf 0 es.length tx ro nx ns.length := by
  constructor
  · rintro ⟨h, ⟨_, ⟨b1, b2, b3, b4, b5, b6, b7⟩, h1, h2, h3⟩ | ⟨h0, _⟩ | ⟨h0, _⟩⟩
    · exact ⟨⟨h2, h3⟩, h, b1, b2, b3, rfl, h1, b4, b5, b6, b7⟩
    · cases h0
    · cases h0
  · rintro ⟨⟨h2, h3⟩, h, b1, b2, b3, _, h1, b4, b5, b6, b7⟩
    exact ⟨h, .inl ⟨rfl, ⟨b1, b2, b3, b4, b5, b6, b7⟩, h1, h2, h3⟩⟩
theorem may_1 {cl rv sq fr ls ro nx : Int} {rf : Bool} {tx : ByteArray} {ns : List Nd} {ed : List C} {es : List En} : MsMay ⟨1, cl, rv, sq, fr, ls, rf, tx, ro, nx, ns, ed, es⟩ ↔ (sq = 0 ∧ es.length ≤ 3 ∧ ∀ e ∈ es, EnMay e) ∧ MsHead ⟨1, cl, rv, sq, fr, ls, rf, tx, ro, nx, ns, ed, es⟩ ∧ Br fr ls rf ed.length 0 tx ro nx ns.length := by
  constructor
  · rintro ⟨h, ⟨h0, _⟩ | ⟨_, ⟨b1, b2, b3, b4, b5, b6, b7⟩, h1, h2, h3, h4⟩ | ⟨h0, _⟩⟩
    · cases h0
    · exact ⟨⟨h2, h3, h4⟩, h, b1, b2, b3, h1, rfl, b4, b5, b6, b7⟩
    · cases h0
  · rintro ⟨⟨h2, h3, h4⟩, h, b1, b2, b3, h1, _, b4, b5, b6, b7⟩
    exact ⟨h, .inr (.inl ⟨rfl, ⟨b1, b2, b3, b4, b5, b6, b7⟩, h1, h2, h3, h4⟩)⟩
theorem may_2 {cl rv sq fr ls ro nx : Int} {rf : Bool} {tx : ByteArray} {ns : List Nd} {ed : List C} {es : List En} : MsMay ⟨2, cl, rv, sq, fr, ls, rf, tx, ro, nx, ns, ed, es⟩ ↔ ((0 ≤ fr ∧ fr ≤ 4096) ∧ (0 ≤ ls ∧ ls ≤ 4096) ∧ tx.size ≤ 300 ∧ mayB ns ro nx tx.size = true) ∧ MsHead ⟨2, cl, rv, sq, fr, ls, rf, tx, ro, nx, ns, ed, es⟩ ∧ Br 0 0 false ed.length es.length ⟨#[]⟩ 0 0 0 := by
  constructor
  · rintro ⟨h, ⟨h0, _⟩ | ⟨h0, _⟩ | ⟨_, h1, h2, h3, h4, h5, h6, h7, h8⟩⟩
    · cases h0
    · cases h0
    · exact ⟨⟨⟨h3, h4⟩, ⟨h5, h6⟩, h7, h8⟩, h, rfl, rfl, rfl, h2, h1, rfl, rfl, rfl, rfl⟩
  · rintro ⟨⟨⟨h3, h4⟩, ⟨h5, h6⟩, h7, h8⟩, h, _, _, _, h2, h1, _⟩
    exact ⟨h, .inr (.inr ⟨rfl, h1, h2, h3, h4, h5, h6, h7, h8⟩)⟩
theorem may_x {m : Ms} (h0 : ¬ m.kd = 0) (h1 : ¬ m.kd = 1) (h2 : ¬ m.kd = 2) : ¬ MsMay m := by
  rintro ⟨_, h | h | h⟩
  · exact h0 h.1
  · exact h1 h.1
  · exact h2 h.1

end Go.Proofs.YtjmfjlffcopnnaaGreatDoor
