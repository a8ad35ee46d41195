/-
  The program's May: count, client; every of steps: the walks (made by tools/genqn.py). Conditions: as each theorem's premises say.
-/
import Derived.Test.YtjmfjlffcopnnaaDoorM20
import Derived.Test.YtjmfjlffcopnnaaDoorStm
namespace Go.Proofs.YtjmfjlffcopnnaaDoor
open Go.RowKit
open Go.Proofs.YtjmfjlffcopnnaaDoor.K (C RowC MayP)

theorem tells_bool {c : Bool} {w w' : World} {e : Ending} (h : RetBelow (.returned (.bool c)) w e w') : Tells (c = true) w e w' := by
  obtain ⟨rfl, hb⟩ := h
  cases c with
  | true => exact tells_yes rfl hb
  | false => exact tells_no (by decide) hb
theorem ncount_any (x : Int) (w : World) : Calls Tryd.prog 20 #[.int .i64 x] w (fun e w' => e = .returned (.bool (decide (0 ≤ x ∧ x ≤ 4096))) ∧ w' = w) := by
  by_cases a1 : 0 ≤ x
  · by_cases a2 : x ≤ 4096
    · go_enter Tryd.func20, Tryd.ntmps20
      go_wp2_with fail
      go_ret
      exact ⟨retB (by simp [a1, a2]), rfl⟩
    · go_enter Tryd.func20, Tryd.ntmps20
      go_wp2_with fail
      go_ret
      exact ⟨retB (by simp [a2]), rfl⟩
  · go_enter Tryd.func20, Tryd.ntmps20
    go_wp2_with fail
    go_ret
    exact ⟨retB (by simp; omega), rfl⟩
theorem nclient_any (x : Int) (w : World) : Calls Tryd.prog 22 #[.int .i64 x] w (fun e w' => e = .returned (.bool (decide (0 ≤ x ∧ x < 3))) ∧ w' = w) := by
  by_cases a1 : 0 ≤ x
  · by_cases a2 : x < 3
    · go_enter Tryd.func22, Tryd.ntmps22
      go_wp2_with fail
      go_ret
      exact ⟨retB (by simp [a1, a2]), rfl⟩
    · go_enter Tryd.func22, Tryd.ntmps22
      go_wp2_with fail
      go_ret
      exact ⟨retB (by simp [a2]), rfl⟩
  · go_enter Tryd.func22, Tryd.ntmps22
    go_wp2_with fail
    go_ret
    exact ⟨retB (by simp; omega), rfl⟩
set_option maxRecDepth 100000 in
set_option maxHeartbeats 4000000 in
theorem ncls_any (x : St) (kp : Option Addr) (kc : Nat) (fb : Nat) (w : World) (hf : w.heap[fb]? = some (.cells #[.func (.func 50) #[] #[]] 91 (0, 0))) (hr : lyI.Row w kp x.kids) (hl : x.kids.length ≤ 140737488355328) : Calls Tryd.prog 72 #[.agg #[.int .i64 x.kd, .int .i64 x.id, .int .i64 x.nd, .int .i64 x.fr, .int .i64 (St.to x), .slice kp x.kids.length kc], .pointer (some ⟨fb, 0, none⟩)] w (Tells (¬ stepMay x = true) w) := by
  have hr := Lib.hid hr
  have F := Lib.hid hf
  clear hf
  have B0 : Hid (Bl w (w.alloc (.cells #[.int .i64 x.kd, .int .i64 x.id, .int .i64 x.nd, .int .i64 x.fr, .int .i64 (St.to x), .slice kp x.kids.length kc] 45))) := Lib.hid (Bl.alloc (Bl.refl w) _)
  have ON := Lib.hid (fun (W : World) (hW : Bl w W) => ((smay_any x kp kc W (hr.out.below hW) hl).mono (fun _ _ h => tells_bool h)))
  unfold stV at ON
  clear hl
  clear hr
  have f0 : (w.alloc (.cells #[.int .i64 x.kd, .int .i64 x.id, .int .i64 x.nd, .int .i64 x.fr, .int .i64 (St.to x), .slice kp x.kids.length kc] 45)).cell? ⟨fb, 0, none⟩ = some (.func (.func 50) #[] #[]) := (obj_cells (heap_later F.out B0.out)).1 0 _ rfl
  go_enter Tryd.func72, Tryd.ntmps72
  go_wp2_with (go_at_call 50; refine (ON.out _ B0.out).mono ?_; rintro e w2 ⟨hb, ⟨rfl, h1⟩ | ⟨rfl, h1⟩⟩ <;> (have B2 := Lib.hid (B0.out.trans (hb.mono B0.out.size)); have H1 := Lib.hid h1; clear hb h1))
  · go_ret
    exact tells_no (fun h => h H1.out) B2.out
  · go_ret
    exact tells_yes H1.out B2.out
def NIxS (l : List St) (w : World) (en : Ending) (w' : World) : Prop := Bl w w' ∧ ((∃ i : Nat, en = .returned (.int .i64 i) ∧ ¬ ∀ x ∈ l, stepMay x = true) ∨ (en = .returned (.int .i64 (-1)) ∧ ∀ x ∈ l, stepMay x = true))
set_option maxRecDepth 100000 in
set_option maxHeartbeats 4000000 in
theorem nixs_any (l : List St) (p : Option Addr) (n cap : Nat) (hn : l.length = n) (hl : n ≤ 140737488355328) (fb : Nat) (w : World) (hf : w.heap[fb]? = some (.cells #[.func (.func 50) #[] #[]] 91 (0, 0))) (h : StepsR w p l) (hk : ∀ s ∈ l, s.kids.length ≤ 140737488355328) : Calls Tryd.prog 85 #[.slice p n cap, .func (.func 72) #[] #[.pointer (some ⟨fb, 0, none⟩)]] w (NIxS l w) := by
  have F := Lib.hid hf; have R := Lib.hid h; have HN := Lib.hid hn; have HK := Lib.hid hk
  clear hf h hn hk
  go_enter Tryd.func85, Tryd.ntmps85
  go_wp2_with fail
  go_loopw [8, 5] (fun v _ wr => ∃ i : Nat, i ≤ n ∧ v = .int .i64 i ∧ Hid (∀ (j : Nat) x, j < i → l[j]? = some x → stepMay x = true) ∧ Hid (Bl w wr)) (fun v _ _ => n - (intOf v).toNat)
  case atStart => exact ⟨0, by omega, rfl, Lib.hid (fun j x hj => absurd hj (Nat.not_lt_zero _)), Lib.hid (Bl.refl _)⟩
  case round =>
    obtain ⟨i, hi, rfl, D, B⟩ := hrel
    by_cases hlt : i < n
    · obtain ⟨x, hx⟩ : ∃ x, l[i]? = some x := ⟨_, List.getElem?_eq_getElem (by rw [HN.out]; exact hlt)⟩
      obtain ⟨ab, ao, kp, kc, rfl, hat, hrow⟩ := R.out i x hx
      have m1 := hat.below B.out
      have n0 : wr.cell? ⟨ab, ao + i * 6, none⟩ = some (.int .i64 x.kd) := m1 0 _ rfl
      have n1 : wr.cell? ⟨ab, ao + i * 6 + 1, none⟩ = some (.int .i64 x.id) := m1 1 _ rfl
      have n2 : wr.cell? ⟨ab, ao + i * 6 + 2, none⟩ = some (.int .i64 x.nd) := m1 2 _ rfl
      have n3 : wr.cell? ⟨ab, ao + i * 6 + 3, none⟩ = some (.int .i64 x.fr) := m1 3 _ rfl
      have n4 : wr.cell? ⟨ab, ao + i * 6 + 4, none⟩ = some (.int .i64 (St.to x)) := m1 4 _ rfl
      have n5 : wr.cell? ⟨ab, ao + i * 6 + 5, none⟩ = some (.slice kp x.kids.length kc) := m1 5 _ rfl
      have hi0 : (0 : Int) ≤ (i : Int) := by omega
      have hi1 : (i : Int) < (n : Int) := by omega
      have CC := Lib.hid (ncls_any x kp kc fb wr (heap_later F.out B.out) (hrow.below B.out) (HK.out x (List.mem_of_getElem? hx)))
      have HX := Lib.hid hx
      clear m1 hat hrow hx
      go_wp2_with (go_at_call 72; refine CC.out.mono ?_; rintro e w2 ⟨hb, ⟨rfl, h1⟩ | ⟨rfl, h1⟩⟩ <;> (have B2 := Lib.hid (B.out.trans (hb.mono B.out.size)); have H1 := Lib.hid h1; clear hb h1))
      · go_ret
        exact ⟨B2.out, .inl ⟨i, rfl, fun h => H1.out (h x (List.mem_of_getElem? HX.out))⟩⟩
      · go_roundw
        case rel =>
          refine ⟨i + 1, by omega, by go_num, Lib.hid (fun j y hj hy => ?_), B2⟩
          by_cases hji : j = i
          · subst hji
            rw [HX.out] at hy
            cases hy
            exact Classical.not_not.1 H1.out
          · exact D.out j y (by omega) hy
        case measure => simp [intOf]; omega
    · go_wp2_with fail
      go_ret
      refine ⟨B.out, .inr ⟨rfl, fun x hx => ?_⟩⟩
      obtain ⟨j, hj⟩ := List.mem_iff_getElem?.1 hx
      exact D.out j x (by have := (List.getElem?_eq_some_iff.1 hj).1; rw [HN.out] at this; omega) hj
set_option maxRecDepth 100000 in
set_option maxHeartbeats 4000000 in
theorem ncts_any (l : List St) (p : Option Addr) (n cap : Nat) (hn : l.length = n) (hl : n ≤ 140737488355328) (fb : Nat) (w : World) (hf : w.heap[fb]? = some (.cells #[.func (.func 50) #[] #[]] 91 (0, 0))) (h : StepsR w p l) (hk : ∀ s ∈ l, s.kids.length ≤ 140737488355328) : Calls Tryd.prog 71 #[.slice p n cap, .func (.func 72) #[] #[.pointer (some ⟨fb, 0, none⟩)]] w (Tells (¬ ∀ x ∈ l, stepMay x = true) w) := by
  have D := Lib.hid (nixs_any l p n cap hn hl fb w hf h hk)
  clear hn hf h hk
  go_enter Tryd.func71, Tryd.ntmps71
  go_upto_region 1 with fail
  go_wp2_with (go_at_call 85; refine D.out.mono ?_; rintro e w2 ⟨hb, ⟨i, rfl, h1⟩ | ⟨rfl, h1⟩⟩ <;> (have B2 := Lib.hid hb; have H1 := Lib.hid h1; clear hb h1))
  · go_ret
    exact ⟨B2.out, .inl ⟨retB (by simp), H1.out⟩⟩
  · go_ret
    exact ⟨B2.out, .inr ⟨retB (by decide), fun h => h H1.out⟩⟩
set_option maxRecDepth 100000 in
set_option maxHeartbeats 4000000 in
theorem nevs_any (l : List St) (p : Option Addr) (n cap : Nat) (hn : l.length = n) (hl : n ≤ 140737488355328) (w : World) (h : StepsR w p l) (hk : ∀ s ∈ l, s.kids.length ≤ 140737488355328) : Calls Tryd.prog 49 #[.slice p n cap, .func (.func 50) #[] #[]] w (Tells (∀ x ∈ l, stepMay x = true) w) := by
  have B0 : Hid (Bl w (w.alloc (.cells #[.func (.func 50) #[] #[]] 91))) := Lib.hid (Bl.alloc (Bl.refl w) _)
  have D := Lib.hid (ncts_any l p n cap hn hl w.heap.size (w.alloc (.cells #[.func (.func 50) #[] #[]] 91)) (heap_alloc_new w _) (h.below B0.out) hk)
  clear hn h hk
  go_enter Tryd.func49, Tryd.ntmps49
  go_wp2_with (go_at_call 71; refine D.out.mono ?_; rintro e w2 ⟨hb, ⟨rfl, h1⟩ | ⟨rfl, h1⟩⟩ <;> (have B2 := Lib.hid (B0.out.trans (hb.mono B0.out.size)); have H1 := Lib.hid h1; clear hb h1))
  · go_ret
    exact tells_no H1.out B2.out
  · go_ret
    exact tells_yes (Classical.not_not.1 H1.out) B2.out

end Go.Proofs.YtjmfjlffcopnnaaDoor
