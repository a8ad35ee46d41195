/-
  The walk of tree.May. Conditions: as each theorem's premises say.
-/
import Derived.Test.YtdhkjhdbaofdcaaMyB
import Derived.Test.YtdhkjhdbaofdcaaRw4
import Derived.Test.YtdhkjhdbaofdcaaDe2
namespace Go.Proofs.Ytdhkjhdbaofdcaa
open Go.RowKit

set_option maxRecDepth 100000 in
set_option maxHeartbeats 1000000 in
theorem isRoot_any (id kd fr tt : Int) (kp : Option Addr) (kn kc tb : Nat) (root : Int) (w : World) (h : w.cell? ⟨tb, 0, none⟩ = some (.int .i64 root)) : Calls Try.prog 47 #[.agg #[.int .i64 id, .int .i64 kd, .int .i64 fr, .int .i64 tt, .slice kp kn kc], .pointer (some ⟨tb, 0, none⟩)] w (RetBelow (.returned (.bool (id == root))) w) := by
  have h2 : ∀ o, (w.alloc o).cell? ⟨tb, 0, none⟩ = some (.int .i64 root) := fun o => (Bl.alloc (Bl.refl w) o).cell h
  go_enter Try.func47, Try.ntmps47
  go_wp2_with fail
  go_ret
  exact ⟨rfl, (Below.refl _ _).alloc (Nat.le_refl _) _⟩

set_option maxRecDepth 100000 in
set_option maxHeartbeats 2000000 in
theorem index_any (root : Int) (p : Option Addr) (ns : List Nd) (N cap tb : Nat) (hN : ns.length = N) (w : World) (R : NodesR w p ns) (h : w.cell? ⟨tb, 0, none⟩ = some (.int .i64 root)) (hl : N ≤ 140737488355328) :
    Calls Try.prog 46 #[.slice p N cap, .func (.func 47) #[] #[.pointer (some ⟨tb, 0, none⟩)]] w (RetBelow (.returned (.int .i64 (fdZ ns root))) w) := by
  have RR := Lib.hid R; have HN := Lib.hid hN; have H := Lib.hid h
  clear R hN h
  go_enter Try.func46, Try.ntmps46
  go_wp2_with fail
  go_loopw [8, 5] (fun v _ wr => ∃ j : Nat, j ≤ N ∧ v = .int .i64 j ∧ Hid (Bl w wr) ∧ Hid (fdI root (ns.drop j) j = fdI root ns 0)) (fun v _ _ => N - (intOf v).toNat)
  case atStart => exact ⟨0, by omega, rfl, Lib.hid (Bl.refl _), Lib.hid rfl⟩
  case round =>
    obtain ⟨j, hj, rfl, B, E⟩ := hrel
    by_cases hlt : j < N
    · obtain ⟨x, hx⟩ : ∃ x, ns[j]? = some x := ⟨_, List.getElem?_eq_getElem (by rw [HN.out]; exact hlt)⟩
      obtain ⟨b, o, kp, kc, rfl, hat, -⟩ := RR.out j x hx
      have n0 : wr.cell? ⟨b, o + j * 5, none⟩ = some (.int .i64 x.id) := B.out.cell (hat 0 _ rfl)
      have n1 : wr.cell? ⟨b, o + j * 5 + 1, none⟩ = some (.int .i64 x.kd) := B.out.cell (hat 1 _ rfl)
      have n2 : wr.cell? ⟨b, o + j * 5 + 2, none⟩ = some (.int .i64 x.fr) := B.out.cell (hat 2 _ rfl)
      have n3 : wr.cell? ⟨b, o + j * 5 + 3, none⟩ = some (.int .i64 (Nd.to x)) := B.out.cell (hat 3 _ rfl)
      have n4 : wr.cell? ⟨b, o + j * 5 + 4, none⟩ = some (.slice kp x.kids.length kc) := B.out.cell (hat 4 _ rfl)
      have CL := Lib.hid (isRoot_any x.id x.kd x.fr (Nd.to x) kp x.kids.length kc tb root wr (B.out.cell H.out))
      have hi0 : (0 : Int) ≤ (j : Int) := by omega
      have hi1 : (j : Int) < (N : Int) := by omega
      have DA := Lib.hid (drop_at hx)
      clear hat hx
      by_cases he : x.id = root
      · have q : (x.id == root) = true := by simpa using he
        rw [q] at CL
        have F : Hid (fdZ ns root = (j : Int)) := Lib.hid (by unfold fdZ; rw [← E.out, DA.out]; simp [fdI, he])
        clear he q
        go_wp2_with (go_at_call 47; refine CL.out.mono ?_; rintro e w1 ⟨rfl, hb1⟩; have B1 := Lib.hid (B.out.call hb1); clear hb1)
        go_ret
        exact ⟨retI (by rw [F.out]), B1.out⟩
      · have q : (x.id == root) = false := by simpa using he
        rw [q] at CL
        have E' : Hid (fdI root (ns.drop (j + 1)) (j + 1) = fdI root ns 0) := Lib.hid (by rw [← E.out, DA.out]; simp [fdI, he])
        clear he q
        go_wp2_with (go_at_call 47; refine CL.out.mono ?_; rintro e w1 ⟨rfl, hb1⟩; have B1 := Lib.hid (B.out.call hb1); clear hb1)
        go_roundw
        case rel => exact ⟨j + 1, by omega, by go_num, B1, E'⟩
        case measure => simp [intOf]; omega
    · have F : Hid (fdZ ns root = -1) := Lib.hid (by
        unfold fdZ
        rw [← E.out, List.drop_eq_nil_of_le (by rw [HN.out]; omega)]; rfl)
      go_wp2_with fail
      go_ret
      exact ⟨retI (by rw [F.out]), B.out⟩

theorem may_endless {ns : List Nd} {root next : Int} (h : getN ns root = none) : mayB ns root next (endN ns root) = false := by
  cases hb : mayB ns root next (endN ns root) with
  | false => rfl
  | true =>
    have := (mayC_is.1 hb).size0
    unfold endN at this
    rw [h] at this
    exact absurd this (by decide)

set_option maxRecDepth 100000 in
set_option maxHeartbeats 2000000 in
theorem dmay_any (root next : Int) (p : Option Addr) (ns : List Nd) (N cap : Nat) (hN : ns.length = N) (w : World) (R : NodesR w p ns) (hl : N ≤ 140737488355328) (hk : ∀ x ∈ ns, x.kids.length ≤ 140737488355328) :
    Calls Try.prog 19 #[trV root next p N cap] w (RetBelow (.returned (.bool (mayB ns root next (endN ns root)))) w) := by
  have RR := Lib.hid R; have HN := Lib.hid hN; have HKK := Lib.hid hk
  unfold trV
  have TB : Hid ((w.alloc (.cells #[.int .i64 root, .int .i64 next, .slice p N cap] 24)).heap[w.heap.size]? = some (.cells #[.int .i64 root, .int .i64 next, .slice p N cap] 24 (0, 0))) := Lib.hid (heap_new rfl _ _)
  have BT : Hid (Bl w (w.alloc (.cells #[.int .i64 root, .int .i64 next, .slice p N cap] 24))) := Lib.hid (Bl.alloc (Bl.refl _) _)
  clear R hN hk
  go_enter Try.func19, Try.ntmps19
  have IX := Lib.hid (index_any root p ns N cap w.heap.size HN.out _ (RR.out.below BT.out) ((obj_cells TB.out).1 0 _ rfl) hl)
  go_upto_region 2 with fail
  refine IX.out.mono ?_
  rintro e w1 ⟨rfl, hb1⟩
  have T1 := Lib.hid (heap_later TB.out hb1)
  have B1 := Lib.hid (BT.out.call hb1)
  clear hb1
  go_upto_region 2 with fail
  rcases fd_cases ns root with ⟨k, x, h1, h2, h3, h4⟩ | ⟨h1, h2⟩
  · rw [h1]
    have EN : Hid (endN ns root = Nd.to x) := Lib.hid (by unfold endN; rw [h4])
    obtain ⟨b, o, kp, kc, rfl, hat, -⟩ := RR.out k x h2
    have hkN : k < N := by rw [← HN.out]; exact (List.getElem?_eq_some_iff.1 h2).1
    have MY := Lib.hid (fun (X : Ext w1) => may_any root next (Nd.to x) _ ns N cap HN.out X.w (RR.out.below (B1.out.call X.below)) hl HKK.out)
    unfold trV at MY
    rw [mayP_is_B] at MY
    have a0 : ∀ X : Ext w1, X.w.cell? ⟨w.heap.size, 0, none⟩ = some (.int .i64 root) := fun X => X.cell ((obj_cells T1.out).1 0 _ rfl)
    have a1 : ∀ X : Ext w1, X.w.cell? ⟨w.heap.size, 1, none⟩ = some (.int .i64 next) := fun X => X.cell ((obj_cells T1.out).1 1 _ rfl)
    have a2 : ∀ X : Ext w1, X.w.cell? ⟨w.heap.size, 2, none⟩ = some (.slice (some ⟨b, o, none⟩) N cap) := fun X => X.cell ((obj_cells T1.out).1 2 _ rfl)
    have n3 : ∀ X : Ext w1, X.w.cell? ⟨b, o + k * 5 + 3, none⟩ = some (.int .i64 (Nd.to x)) := fun X => X.cell (B1.out.cell (hat 3 _ rfl))
    have hk0 : (0 : Int) ≤ (k : Int) := by omega
    have hk1 : (k : Int) < (N : Int) := by omega
    have hk2 : decide ((0 : Int) ≤ (k : Int)) = true := decide_eq_true (by omega)
    clear h1 h2 h3 h4 hat IX
    refine wp_region_ext (by kernel_rfl) (by kernel_rfl) ?_
    repeat (go_big_quiet_step (first | (go_at_call 24; exact Ext.calls (MY.out _)) | fail))
    refine wpQuiet_nil ?_
    rintro _ ⟨X, rfl⟩
    clear a0 a1 a2 n3
    go_wp2_with fail
    go_ret
    exact ⟨retB (by rw [EN.out]), B1.out.call X.below⟩
  · rw [h1]
    have F := Lib.hid (may_endless (next := next) h2)
    clear h1 h2 IX
    go_quiet (fail)
    go_wp2_with fail
    go_ret
    exact ⟨retB (by rw [F.out]), B1.out.call (dr_below _ _)⟩

end Go.Proofs.Ytdhkjhdbaofdcaa
