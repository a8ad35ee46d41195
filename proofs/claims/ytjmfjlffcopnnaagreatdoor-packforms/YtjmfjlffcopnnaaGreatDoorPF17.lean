/-
  La1, La2, in one text. Conditions: as each theorem's premises say.
-/
import Derived.Test.YtjmfjlffcopnnaaGreatDoorPF16
namespace Go.Proofs.YtjmfjlffcopnnaaGreatDoor
open Go.RowKit

theorem num_any (n : Int) (w : World) : Calls Tryz.prog 10 #[.int .i64 n] w fun e w' => e = .returned (.int .i64 n) ∧ w = w' := by
  go_enter Tryz.func10, Tryz.ntmps10
  go_wp2_with fail
  go_ret
  exact ⟨rfl, rfl⟩

set_option maxRecDepth 100000 in
set_option maxHeartbeats 1000000 in
theorem lsameInts_any (pa pb : Option Addr) (a b : List Int) (na nb ca cb : Nat) (ha : a.length = na) (hb : b.length = nb) (w : World) (ra : lyI.Row w pa a) (rb : lyI.Row w pb b) (hl : na ≤ 140737488355328) : Calls Tryz.prog 86 #[.slice pa na ca, .slice pb nb cb] w (RetBelow (.returned (.bool (a == b))) w) := by
  have RA := Lib.hid ra; have RB := Lib.hid rb; have HA := Lib.hid ha; have HB := Lib.hid hb
  clear ra rb ha hb
  by_cases hn : na = nb
  · subst hn
    go_enter Tryz.func86, Tryz.ntmps86
    go_wp2_with fail
    go_loopw [5] (fun v wr => ∃ j : Nat, j ≤ na ∧ v = .int .i64 j ∧ Hid (Below w.heap.size w wr) ∧ Hid (a.take j = b.take j)) (fun v _ => na - (intOf v).toNat)
    case atStart => exact ⟨0, by omega, rfl, Lib.hid (Below.refl _ _), Lib.hid (by simp)⟩
    case round =>
      obtain ⟨j, hj, rfl, B, E⟩ := hrel
      by_cases hlt : j < na
      · obtain ⟨x, hx⟩ : ∃ x, a[j]? = some x := ⟨_, List.getElem?_eq_getElem (by rw [HA.out]; exact hlt)⟩
        obtain ⟨y, hy⟩ : ∃ y, b[j]? = some y := ⟨_, List.getElem?_eq_getElem (by rw [HB.out]; exact hlt)⟩
        obtain ⟨ba, oa, rfl, c0⟩ := ints_at RA.out hx
        obtain ⟨bb, ob, rfl, d0⟩ := ints_at RB.out hy
        have c1 := cell_later B.out c0
        have d1 := cell_later B.out d0
        have HX := Lib.hid hx; have HY := Lib.hid hy
        have hi0 : (0 : Int) ≤ (j : Int) := by omega
        have hi1 : (j : Int) < (na : Int) := by omega
        clear c0 d0 hx hy
        by_cases he : x = y
        · have q : (x != y) = false := by simpa using he
          have E' : Hid (a.take (j + 1) = b.take (j + 1)) := Lib.hid (by rw [List.take_add_one, List.take_add_one, E.out, HX.out, HY.out, he])
          subst he
          go_wp2_with fail
          go_quiet (fail)
          go_wp2_with fail
          go_roundw
          case rel => exact ⟨j + 1, by omega, by go_num, Lib.hid (B.out.trans ((dr_below _ _).mono B.out.size)), E'⟩
          case measure => simp [intOf]; omega
        · have q : (x != y) = true := by simpa using he
          have F : Hid ((a == b) = false) := Lib.hid (by
            rw [beq_eq_false_iff_ne]
            intro e
            have h1 := HX.out
            rw [e, HY.out] at h1
            exact he (Option.some.inj h1).symm)
          clear he
          go_wp2_with fail
          go_quiet (fail)
          go_wp2_with fail
          go_ret
          exact ⟨retB (by rw [F.out]), B.out.trans ((dr_below _ _).mono B.out.size)⟩
      · have F : Hid ((a == b) = true) := Lib.hid (by
          have := E.out
          rw [List.take_of_length_le (by rw [HA.out]; omega), List.take_of_length_le (by rw [HB.out]; omega)] at this
          simpa using this)
        go_wp2_with fail
        go_ret
        exact ⟨retB (by rw [F.out]), B.out⟩
  · have F : Hid ((a == b) = false) := Lib.hid (by
      rw [beq_eq_false_iff_ne]
      intro e
      have h1 := HA.out
      rw [e, HB.out] at h1
      exact hn h1.symm)
    have q : ((na : Int) != (nb : Int)) = true := by simp; omega
    have q2 : (na != nb) = true := by simpa using hn
    clear hn
    go_enter Tryz.func86, Tryz.ntmps86
    go_wp2_with fail
    go_ret
    exact ⟨retB (by rw [F.out]), Below.refl _ _⟩

theorem lsame_true (pa pb : Option Addr) (a : List Int) (ca cb : Nat) (w : World) (ra : lyI.Row w pa a) (rb : lyI.Row w pb a) (hl : a.length ≤ 140737488355328) : Calls Tryz.prog 86 #[.slice pa a.length ca, .slice pb a.length cb] w (RetBelow (.returned (.bool true)) w) := by
  have := lsameInts_any pa pb a a a.length a.length ca cb rfl rfl w ra rb hl
  rwa [beq_self_eq_true] at this
/-- Two boxes, made and filled. -/
def TwoB (wr W : World) (ty : TypeId) (v1 v2 : Value) (us vs : List Value) : Prop := ∃ xb yb, v1 = .pointer (some ⟨xb, 0, none⟩) ∧ v2 = .pointer (some ⟨yb, 0, none⟩) ∧ W.heap[xb]? = some (.cells us.toArray ty (0, 0)) ∧ W.heap[yb]? = some (.cells vs.toArray ty (0, 0)) ∧ Below wr.heap.size wr W
theorem two_made (wr : World) (ty : TypeId) (us vs : List Value) : TwoB wr ((wr.alloc (.cells us.toArray ty)).alloc (.cells vs.toArray ty)).drew ty (.pointer (some ⟨wr.heap.size, 0, none⟩)) (.pointer (some ⟨wr.heap.size + 1, 0, none⟩)) us vs ∧ TwoB wr ((wr.alloc (.cells us.toArray ty)).alloc (.cells vs.toArray ty)).drew ty (.pointer (some ⟨wr.heap.size + 1, 0, none⟩)) (.pointer (some ⟨wr.heap.size, 0, none⟩)) vs us := by
  have h1 : ((wr.alloc (.cells us.toArray ty)).alloc (.cells vs.toArray ty)).heap[wr.heap.size]? = some (.cells us.toArray ty (0, 0)) := ((below1 (Below.refl _ _) (Nat.le_refl _) _).block wr.heap.size (by simp)).trans (heap_alloc_new wr _)
  have h2 : ((wr.alloc (.cells us.toArray ty)).alloc (.cells vs.toArray ty)).heap[wr.heap.size + 1]? = some (.cells vs.toArray ty (0, 0)) := by
    have := heap_alloc_new (wr.alloc (.cells us.toArray ty)) (.cells vs.toArray ty)
    rwa [show (wr.alloc (.cells us.toArray ty)).heap.size = wr.heap.size + 1 by simp] at this
  have h3 := below_drew (below2 (Below.refl wr.heap.size wr) (Nat.le_refl _) (.cells us.toArray ty) (.cells vs.toArray ty))
  exact ⟨⟨_, _, rfl, rfl, h1, h2, h3⟩, ⟨_, _, rfl, rfl, h2, h1, h3⟩⟩

set_option maxRecDepth 100000 in
set_option maxHeartbeats 2000000 in
theorem sameSteps_true (pa pb : Option Addr) (ss : List St) (n ca cb : Nat) (hn : ss.length = n) (w : World) (ha : StepsR w pa ss) (hb : StepsR w pb ss) (hl : n ≤ 140737488355328) (hk : ∀ s ∈ ss, s.kids.length ≤ 140737488355328) : Calls Tryz.prog 85 #[.slice pa n ca, .slice pb n cb] w (RetBelow (.returned (.bool true)) w) := by
  have RA := Lib.hid ha; have RB := Lib.hid hb; have HN := Lib.hid hn; have HK := Lib.hid hk
  clear ha hb hn hk
  go_enter Tryz.func85, Tryz.ntmps85
  go_wp2_with fail
  go_loopw [5] (fun v wr => ∃ j : Nat, j ≤ n ∧ v = .int .i64 j ∧ Hid (Below w.heap.size w wr)) (fun v _ => n - (intOf v).toNat)
  case atStart => exact ⟨0, by omega, rfl, Lib.hid (Below.refl _ _)⟩
  case round =>
    obtain ⟨j, hj, rfl, B⟩ := hrel
    by_cases hlt : j < n
    · obtain ⟨x, hx⟩ : ∃ x, ss[j]? = some x := ⟨_, List.getElem?_eq_getElem (by rw [HN.out]; exact hlt)⟩
      obtain ⟨ab, ao, kp, kc, rfl, hat, hr⟩ := RA.out j x hx
      obtain ⟨bb, bo, kp2, kc2, rfl, hat2, hr2⟩ := RB.out j x hx
      have m1 := hat.below B.out
      have m2 := hat2.below B.out
      have a0 : wr.cell? ⟨ab, ao + j * 6, none⟩ = some (.int .i64 x.kd) := m1 0 _ rfl
      have a1 : wr.cell? ⟨ab, ao + j * 6 + 1, none⟩ = some (.int .i64 x.id) := m1 1 _ rfl
      have a2 : wr.cell? ⟨ab, ao + j * 6 + 2, none⟩ = some (.int .i64 x.nd) := m1 2 _ rfl
      have a3 : wr.cell? ⟨ab, ao + j * 6 + 3, none⟩ = some (.int .i64 x.fr) := m1 3 _ rfl
      have a4 : wr.cell? ⟨ab, ao + j * 6 + 4, none⟩ = some (.int .i64 (St.to x)) := m1 4 _ rfl
      have a5 : wr.cell? ⟨ab, ao + j * 6 + 5, none⟩ = some (.slice kp x.kids.length kc) := m1 5 _ rfl
      have b0 : wr.cell? ⟨bb, bo + j * 6, none⟩ = some (.int .i64 x.kd) := m2 0 _ rfl
      have b1 : wr.cell? ⟨bb, bo + j * 6 + 1, none⟩ = some (.int .i64 x.id) := m2 1 _ rfl
      have b2 : wr.cell? ⟨bb, bo + j * 6 + 2, none⟩ = some (.int .i64 x.nd) := m2 2 _ rfl
      have b3 : wr.cell? ⟨bb, bo + j * 6 + 3, none⟩ = some (.int .i64 x.fr) := m2 3 _ rfl
      have b4 : wr.cell? ⟨bb, bo + j * 6 + 4, none⟩ = some (.int .i64 (St.to x)) := m2 4 _ rfl
      have b5 : wr.cell? ⟨bb, bo + j * 6 + 5, none⟩ = some (.slice kp2 x.kids.length kc2) := m2 5 _ rfl
      have SI := Lib.hid (fun (W : World) (hW : Below w.heap.size w W) => lsame_true kp kp2 x.kids kc kc2 W (hr.below hW) (hr2.below hW) (HK.out x (List.mem_of_getElem? hx)))
      have hj0 : (0 : Int) ≤ (j : Int) := by omega
      have hj1 : (j : Int) < (n : Int) := by omega
      clear m1 m2 hat hat2 hr hr2 hx
      have a0A : ∀ o1, (wr.alloc o1).cell? ⟨ab, ao + j * 6, none⟩ = some (.int .i64 x.kd) := fun o1 => cell_later (below1 (Below.refl _ _) (Nat.le_refl _) _) a0
      have a0B : ∀ o1 o2, ((wr.alloc o1).alloc o2).cell? ⟨ab, ao + j * 6, none⟩ = some (.int .i64 x.kd) := fun o1 o2 => cell_later (below2 (Below.refl _ _) (Nat.le_refl _) _ _) a0
      have a1A : ∀ o1, (wr.alloc o1).cell? ⟨ab, ao + j * 6 + 1, none⟩ = some (.int .i64 x.id) := fun o1 => cell_later (below1 (Below.refl _ _) (Nat.le_refl _) _) a1
      have a1B : ∀ o1 o2, ((wr.alloc o1).alloc o2).cell? ⟨ab, ao + j * 6 + 1, none⟩ = some (.int .i64 x.id) := fun o1 o2 => cell_later (below2 (Below.refl _ _) (Nat.le_refl _) _ _) a1
      have a2A : ∀ o1, (wr.alloc o1).cell? ⟨ab, ao + j * 6 + 2, none⟩ = some (.int .i64 x.nd) := fun o1 => cell_later (below1 (Below.refl _ _) (Nat.le_refl _) _) a2
      have a2B : ∀ o1 o2, ((wr.alloc o1).alloc o2).cell? ⟨ab, ao + j * 6 + 2, none⟩ = some (.int .i64 x.nd) := fun o1 o2 => cell_later (below2 (Below.refl _ _) (Nat.le_refl _) _ _) a2
      have a3A : ∀ o1, (wr.alloc o1).cell? ⟨ab, ao + j * 6 + 3, none⟩ = some (.int .i64 x.fr) := fun o1 => cell_later (below1 (Below.refl _ _) (Nat.le_refl _) _) a3
      have a3B : ∀ o1 o2, ((wr.alloc o1).alloc o2).cell? ⟨ab, ao + j * 6 + 3, none⟩ = some (.int .i64 x.fr) := fun o1 o2 => cell_later (below2 (Below.refl _ _) (Nat.le_refl _) _ _) a3
      have a4A : ∀ o1, (wr.alloc o1).cell? ⟨ab, ao + j * 6 + 4, none⟩ = some (.int .i64 (St.to x)) := fun o1 => cell_later (below1 (Below.refl _ _) (Nat.le_refl _) _) a4
      have a4B : ∀ o1 o2, ((wr.alloc o1).alloc o2).cell? ⟨ab, ao + j * 6 + 4, none⟩ = some (.int .i64 (St.to x)) := fun o1 o2 => cell_later (below2 (Below.refl _ _) (Nat.le_refl _) _ _) a4
      have a5A : ∀ o1, (wr.alloc o1).cell? ⟨ab, ao + j * 6 + 5, none⟩ = some (.slice kp x.kids.length kc) := fun o1 => cell_later (below1 (Below.refl _ _) (Nat.le_refl _) _) a5
      have a5B : ∀ o1 o2, ((wr.alloc o1).alloc o2).cell? ⟨ab, ao + j * 6 + 5, none⟩ = some (.slice kp x.kids.length kc) := fun o1 o2 => cell_later (below2 (Below.refl _ _) (Nat.le_refl _) _ _) a5
      have b0A : ∀ o1, (wr.alloc o1).cell? ⟨bb, bo + j * 6, none⟩ = some (.int .i64 x.kd) := fun o1 => cell_later (below1 (Below.refl _ _) (Nat.le_refl _) _) b0
      have b0B : ∀ o1 o2, ((wr.alloc o1).alloc o2).cell? ⟨bb, bo + j * 6, none⟩ = some (.int .i64 x.kd) := fun o1 o2 => cell_later (below2 (Below.refl _ _) (Nat.le_refl _) _ _) b0
      have b1A : ∀ o1, (wr.alloc o1).cell? ⟨bb, bo + j * 6 + 1, none⟩ = some (.int .i64 x.id) := fun o1 => cell_later (below1 (Below.refl _ _) (Nat.le_refl _) _) b1
      have b1B : ∀ o1 o2, ((wr.alloc o1).alloc o2).cell? ⟨bb, bo + j * 6 + 1, none⟩ = some (.int .i64 x.id) := fun o1 o2 => cell_later (below2 (Below.refl _ _) (Nat.le_refl _) _ _) b1
      have b2A : ∀ o1, (wr.alloc o1).cell? ⟨bb, bo + j * 6 + 2, none⟩ = some (.int .i64 x.nd) := fun o1 => cell_later (below1 (Below.refl _ _) (Nat.le_refl _) _) b2
      have b2B : ∀ o1 o2, ((wr.alloc o1).alloc o2).cell? ⟨bb, bo + j * 6 + 2, none⟩ = some (.int .i64 x.nd) := fun o1 o2 => cell_later (below2 (Below.refl _ _) (Nat.le_refl _) _ _) b2
      have b3A : ∀ o1, (wr.alloc o1).cell? ⟨bb, bo + j * 6 + 3, none⟩ = some (.int .i64 x.fr) := fun o1 => cell_later (below1 (Below.refl _ _) (Nat.le_refl _) _) b3
      have b3B : ∀ o1 o2, ((wr.alloc o1).alloc o2).cell? ⟨bb, bo + j * 6 + 3, none⟩ = some (.int .i64 x.fr) := fun o1 o2 => cell_later (below2 (Below.refl _ _) (Nat.le_refl _) _ _) b3
      have b4A : ∀ o1, (wr.alloc o1).cell? ⟨bb, bo + j * 6 + 4, none⟩ = some (.int .i64 (St.to x)) := fun o1 => cell_later (below1 (Below.refl _ _) (Nat.le_refl _) _) b4
      have b4B : ∀ o1 o2, ((wr.alloc o1).alloc o2).cell? ⟨bb, bo + j * 6 + 4, none⟩ = some (.int .i64 (St.to x)) := fun o1 o2 => cell_later (below2 (Below.refl _ _) (Nat.le_refl _) _ _) b4
      have b5A : ∀ o1, (wr.alloc o1).cell? ⟨bb, bo + j * 6 + 5, none⟩ = some (.slice kp2 x.kids.length kc2) := fun o1 => cell_later (below1 (Below.refl _ _) (Nat.le_refl _) _) b5
      have b5B : ∀ o1 o2, ((wr.alloc o1).alloc o2).cell? ⟨bb, bo + j * 6 + 5, none⟩ = some (.slice kp2 x.kids.length kc2) := fun o1 o2 => cell_later (below2 (Below.refl _ _) (Nat.le_refl _) _ _) b5
      go_upto_region 6 with fail
      go_cut [6, 7] (fun v1 v2 wx => TwoB wr wx 51 v1 v2 [.int .i64 x.kd, .int .i64 x.id, .int .i64 x.nd, .int .i64 x.fr, .int .i64 (St.to x), .slice kp x.kids.length kc] [.int .i64 x.kd, .int .i64 x.id, .int .i64 x.nd, .int .i64 x.fr, .int .i64 (St.to x), .slice kp2 x.kids.length kc2])
      case first =>
        go_region
        all_goals
          go_wp2_with fail
          go_meet
          first | exact (two_made wr 51 _ _).1 | exact (two_made wr 51 _ _).2
      case rest =>
        obtain ⟨xb, yb, rfl, rfl, X, Y, hbx⟩ := hcut
        have BX := Lib.hid (B.out.trans (hbx.mono B.out.size))
        clear hbx a0 a0A a0B a1 a1A a1B a2 a2A a2B a3 a3A a3B a4 a4A a4B a5 a5A a5B b0 b0A b0B b1 b1A b1B b2 b2A b2B b3 b3A b3B b4 b4A b4B b5 b5A b5B
        have x0 := (obj_cells X).1 0 _ rfl
        have x1 := (obj_cells X).1 1 _ rfl
        have x2 := (obj_cells X).1 2 _ rfl
        have x3 := (obj_cells X).1 3 _ rfl
        have x4 := (obj_cells X).1 4 _ rfl
        have x5 := (obj_cells X).1 5 _ rfl
        have y0 := (obj_cells Y).1 0 _ rfl
        have y1 := (obj_cells Y).1 1 _ rfl
        have y2 := (obj_cells Y).1 2 _ rfl
        have y3 := (obj_cells Y).1 3 _ rfl
        have y4 := (obj_cells Y).1 4 _ rfl
        have y5 := (obj_cells Y).1 5 _ rfl
        clear X Y
        go_wp2_with (go_at_call 86; refine (SI.out _ BX.out).mono ?_; rintro e w6 ⟨rfl, hb6⟩; have B6 := Lib.hid (BX.out.trans (hb6.mono BX.out.size)); clear hb6)
        go_roundw
        case rel => exact ⟨j + 1, by omega, by go_num, B6⟩
        case measure => simp [intOf]; omega
    · go_wp2_with fail
      go_ret
      exact ⟨rfl, B.out⟩

set_option maxRecDepth 100000 in
set_option maxHeartbeats 4000000 in
theorem sameTree_true (root next : Int) (pa pb : Option Addr) (ns : List Nd) (n ca cb : Nat) (hn : ns.length = n) (w : World) (ha : NodesR w pa ns) (hb : NodesR w pb ns) (hl : n ≤ 140737488355328) (hk : ∀ s ∈ ns, s.kids.length ≤ 140737488355328) : Calls Tryz.prog 37 #[trV root next pa n ca, trV root next pb n cb] w (RetBelow (.returned (.bool true)) w) := by
  have RA := Lib.hid ha; have RB := Lib.hid hb; have HN := Lib.hid hn; have HK := Lib.hid hk
  clear ha hb hn hk
  have BW : Hid (Below w.heap.size w ((w.alloc (.cells #[.int .i64 root, .int .i64 next, .slice pa n ca] 26)).alloc (.cells #[.int .i64 root, .int .i64 next, .slice pb n cb] 26))) := Lib.hid (below2 (Below.refl _ _) (Nat.le_refl _) _ _)
  have A2 : Hid (((w.alloc (.cells #[.int .i64 root, .int .i64 next, .slice pa n ca] 26)).alloc (.cells #[.int .i64 root, .int .i64 next, .slice pb n cb] 26)).heap[w.heap.size]? = some (.cells #[.int .i64 root, .int .i64 next, .slice pa n ca] 26 (0, 0))) := Lib.hid (((below1 (Below.refl _ _) (Nat.le_refl _) _).block w.heap.size (by simp)).trans (heap_alloc_new w _))
  have B2 : Hid (((w.alloc (.cells #[.int .i64 root, .int .i64 next, .slice pa n ca] 26)).alloc (.cells #[.int .i64 root, .int .i64 next, .slice pb n cb] 26)).heap[w.heap.size + 1]? = some (.cells #[.int .i64 root, .int .i64 next, .slice pb n cb] 26 (0, 0))) := Lib.hid (by
    have := heap_alloc_new (w.alloc (.cells #[.int .i64 root, .int .i64 next, .slice pa n ca] 26)) (.cells #[.int .i64 root, .int .i64 next, .slice pb n cb] 26)
    rwa [show (w.alloc (.cells #[.int .i64 root, .int .i64 next, .slice pa n ca] 26)).heap.size = w.heap.size + 1 by simp] at this)
  unfold trV
  go_enter Tryz.func37, Tryz.ntmps37
  go_upto_region 1 with fail
  generalize ((w.alloc (.cells #[.int .i64 root, .int .i64 next, .slice pa n ca] 26)).alloc (.cells #[.int .i64 root, .int .i64 next, .slice pb n cb] 26)) = W2 at BW A2 B2 ⊢
  have s0 := (obj_cells A2.out).1 0 _ rfl
  have s1 := (obj_cells A2.out).1 1 _ rfl
  have s2 := (obj_cells A2.out).1 2 _ rfl
  have r0 := (obj_cells B2.out).1 0 _ rfl
  have r1 := (obj_cells B2.out).1 1 _ rfl
  have r2 := (obj_cells B2.out).1 2 _ rfl
  go_wp2_with fail
  clear s0 s1 s2 r0 r1 r2
  go_loopw [5] (fun v wr => ∃ j : Nat, j ≤ n ∧ v = .int .i64 j ∧ Hid (Below W2.heap.size W2 wr)) (fun v _ => n - (intOf v).toNat)
  case atStart => exact ⟨0, by omega, rfl, Lib.hid (Below.refl _ _)⟩
  case round =>
    obtain ⟨j, hj, rfl, B⟩ := hrel
    have BA := Lib.hid ((B.out.block _ (Array.getElem?_eq_some_iff.1 A2.out).1).trans A2.out)
    have BB := Lib.hid ((B.out.block _ (Array.getElem?_eq_some_iff.1 B2.out).1).trans B2.out)
    have BR := Lib.hid (BW.out.trans (B.out.mono BW.out.size))
    have tA := (obj_cells BA.out).1 2 _ rfl
    by_cases hlt : j < n
    · obtain ⟨x, hx⟩ : ∃ x, ns[j]? = some x := ⟨_, List.getElem?_eq_getElem (by rw [HN.out]; exact hlt)⟩
      obtain ⟨ab, ao, kp, kc, rfl, hat, hr⟩ := RA.out j x hx
      obtain ⟨bb, bo, kp2, kc2, rfl, hat2, hr2⟩ := RB.out j x hx
      have tB := (obj_cells BB.out).1 2 _ rfl
      have m1 := hat.below BR.out
      have m2 := hat2.below BR.out
      have a0 : wr.cell? ⟨ab, ao + j * 5, none⟩ = some (.int .i64 x.id) := m1 0 _ rfl
      have a1 : wr.cell? ⟨ab, ao + j * 5 + 1, none⟩ = some (.int .i64 x.kd) := m1 1 _ rfl
      have a2 : wr.cell? ⟨ab, ao + j * 5 + 2, none⟩ = some (.int .i64 x.fr) := m1 2 _ rfl
      have a3 : wr.cell? ⟨ab, ao + j * 5 + 3, none⟩ = some (.int .i64 (Nd.to x)) := m1 3 _ rfl
      have a4 : wr.cell? ⟨ab, ao + j * 5 + 4, none⟩ = some (.slice kp x.kids.length kc) := m1 4 _ rfl
      have b0 : wr.cell? ⟨bb, bo + j * 5, none⟩ = some (.int .i64 x.id) := m2 0 _ rfl
      have b1 : wr.cell? ⟨bb, bo + j * 5 + 1, none⟩ = some (.int .i64 x.kd) := m2 1 _ rfl
      have b2 : wr.cell? ⟨bb, bo + j * 5 + 2, none⟩ = some (.int .i64 x.fr) := m2 2 _ rfl
      have b3 : wr.cell? ⟨bb, bo + j * 5 + 3, none⟩ = some (.int .i64 (Nd.to x)) := m2 3 _ rfl
      have b4 : wr.cell? ⟨bb, bo + j * 5 + 4, none⟩ = some (.slice kp2 x.kids.length kc2) := m2 4 _ rfl
      have SI := Lib.hid (fun (W : World) (hW : Below w.heap.size w W) => lsame_true kp kp2 x.kids kc kc2 W (hr.below hW) (hr2.below hW) (HK.out x (List.mem_of_getElem? hx)))
      have hj0 : (0 : Int) ≤ (j : Int) := by omega
      have hj1 : (j : Int) < (n : Int) := by omega
      clear m1 m2 hat hat2 hr hr2 hx
      have a0A : ∀ o1, (wr.alloc o1).cell? ⟨ab, ao + j * 5, none⟩ = some (.int .i64 x.id) := fun o1 => cell_later (below1 (Below.refl _ _) (Nat.le_refl _) _) a0
      have a0B : ∀ o1 o2, ((wr.alloc o1).alloc o2).cell? ⟨ab, ao + j * 5, none⟩ = some (.int .i64 x.id) := fun o1 o2 => cell_later (below2 (Below.refl _ _) (Nat.le_refl _) _ _) a0
      have a1A : ∀ o1, (wr.alloc o1).cell? ⟨ab, ao + j * 5 + 1, none⟩ = some (.int .i64 x.kd) := fun o1 => cell_later (below1 (Below.refl _ _) (Nat.le_refl _) _) a1
      have a1B : ∀ o1 o2, ((wr.alloc o1).alloc o2).cell? ⟨ab, ao + j * 5 + 1, none⟩ = some (.int .i64 x.kd) := fun o1 o2 => cell_later (below2 (Below.refl _ _) (Nat.le_refl _) _ _) a1
      have a2A : ∀ o1, (wr.alloc o1).cell? ⟨ab, ao + j * 5 + 2, none⟩ = some (.int .i64 x.fr) := fun o1 => cell_later (below1 (Below.refl _ _) (Nat.le_refl _) _) a2
      have a2B : ∀ o1 o2, ((wr.alloc o1).alloc o2).cell? ⟨ab, ao + j * 5 + 2, none⟩ = some (.int .i64 x.fr) := fun o1 o2 => cell_later (below2 (Below.refl _ _) (Nat.le_refl _) _ _) a2
      have a3A : ∀ o1, (wr.alloc o1).cell? ⟨ab, ao + j * 5 + 3, none⟩ = some (.int .i64 (Nd.to x)) := fun o1 => cell_later (below1 (Below.refl _ _) (Nat.le_refl _) _) a3
      have a3B : ∀ o1 o2, ((wr.alloc o1).alloc o2).cell? ⟨ab, ao + j * 5 + 3, none⟩ = some (.int .i64 (Nd.to x)) := fun o1 o2 => cell_later (below2 (Below.refl _ _) (Nat.le_refl _) _ _) a3
      have a4A : ∀ o1, (wr.alloc o1).cell? ⟨ab, ao + j * 5 + 4, none⟩ = some (.slice kp x.kids.length kc) := fun o1 => cell_later (below1 (Below.refl _ _) (Nat.le_refl _) _) a4
      have a4B : ∀ o1 o2, ((wr.alloc o1).alloc o2).cell? ⟨ab, ao + j * 5 + 4, none⟩ = some (.slice kp x.kids.length kc) := fun o1 o2 => cell_later (below2 (Below.refl _ _) (Nat.le_refl _) _ _) a4
      have b0A : ∀ o1, (wr.alloc o1).cell? ⟨bb, bo + j * 5, none⟩ = some (.int .i64 x.id) := fun o1 => cell_later (below1 (Below.refl _ _) (Nat.le_refl _) _) b0
      have b0B : ∀ o1 o2, ((wr.alloc o1).alloc o2).cell? ⟨bb, bo + j * 5, none⟩ = some (.int .i64 x.id) := fun o1 o2 => cell_later (below2 (Below.refl _ _) (Nat.le_refl _) _ _) b0
      have b1A : ∀ o1, (wr.alloc o1).cell? ⟨bb, bo + j * 5 + 1, none⟩ = some (.int .i64 x.kd) := fun o1 => cell_later (below1 (Below.refl _ _) (Nat.le_refl _) _) b1
      have b1B : ∀ o1 o2, ((wr.alloc o1).alloc o2).cell? ⟨bb, bo + j * 5 + 1, none⟩ = some (.int .i64 x.kd) := fun o1 o2 => cell_later (below2 (Below.refl _ _) (Nat.le_refl _) _ _) b1
      have b2A : ∀ o1, (wr.alloc o1).cell? ⟨bb, bo + j * 5 + 2, none⟩ = some (.int .i64 x.fr) := fun o1 => cell_later (below1 (Below.refl _ _) (Nat.le_refl _) _) b2
      have b2B : ∀ o1 o2, ((wr.alloc o1).alloc o2).cell? ⟨bb, bo + j * 5 + 2, none⟩ = some (.int .i64 x.fr) := fun o1 o2 => cell_later (below2 (Below.refl _ _) (Nat.le_refl _) _ _) b2
      have b3A : ∀ o1, (wr.alloc o1).cell? ⟨bb, bo + j * 5 + 3, none⟩ = some (.int .i64 (Nd.to x)) := fun o1 => cell_later (below1 (Below.refl _ _) (Nat.le_refl _) _) b3
      have b3B : ∀ o1 o2, ((wr.alloc o1).alloc o2).cell? ⟨bb, bo + j * 5 + 3, none⟩ = some (.int .i64 (Nd.to x)) := fun o1 o2 => cell_later (below2 (Below.refl _ _) (Nat.le_refl _) _ _) b3
      have b4A : ∀ o1, (wr.alloc o1).cell? ⟨bb, bo + j * 5 + 4, none⟩ = some (.slice kp2 x.kids.length kc2) := fun o1 => cell_later (below1 (Below.refl _ _) (Nat.le_refl _) _) b4
      have b4B : ∀ o1 o2, ((wr.alloc o1).alloc o2).cell? ⟨bb, bo + j * 5 + 4, none⟩ = some (.slice kp2 x.kids.length kc2) := fun o1 o2 => cell_later (below2 (Below.refl _ _) (Nat.le_refl _) _ _) b4
      have tA1 : ∀ o1, (wr.alloc o1).cell? ⟨w.heap.size, 2, none⟩ = some (.slice (some ⟨ab, ao, none⟩) n ca) := fun o1 => cell_later (below1 (Below.refl _ _) (Nat.le_refl _) _) tA
      have tA2 : ∀ o1 o2, ((wr.alloc o1).alloc o2).cell? ⟨w.heap.size, 2, none⟩ = some (.slice (some ⟨ab, ao, none⟩) n ca) := fun o1 o2 => cell_later (below2 (Below.refl _ _) (Nat.le_refl _) _ _) tA
      have tB1 : ∀ o1, (wr.alloc o1).cell? ⟨w.heap.size + 1, 2, none⟩ = some (.slice (some ⟨bb, bo, none⟩) n cb) := fun o1 => cell_later (below1 (Below.refl _ _) (Nat.le_refl _) _) tB
      have tB2 : ∀ o1 o2, ((wr.alloc o1).alloc o2).cell? ⟨w.heap.size + 1, 2, none⟩ = some (.slice (some ⟨bb, bo, none⟩) n cb) := fun o1 o2 => cell_later (below2 (Below.refl _ _) (Nat.le_refl _) _ _) tB
      go_upto_region 6 with fail
      go_cut [6, 7] (fun v1 v2 wx => TwoB wr wx 109 v1 v2 [.int .i64 x.id, .int .i64 x.kd, .int .i64 x.fr, .int .i64 (Nd.to x), .slice kp x.kids.length kc] [.int .i64 x.id, .int .i64 x.kd, .int .i64 x.fr, .int .i64 (Nd.to x), .slice kp2 x.kids.length kc2])
      case first =>
        go_region
        all_goals
          go_wp2_with fail
          go_meet
          first | exact (two_made wr 109 _ _).1 | exact (two_made wr 109 _ _).2
      case rest =>
        obtain ⟨xb, yb, rfl, rfl, X, Y, hbx⟩ := hcut
        have BX := Lib.hid (BR.out.trans (hbx.mono BR.out.size))
        have BX2 := Lib.hid (B.out.trans (hbx.mono B.out.size))
        clear hbx a0 a0A a0B a1 a1A a1B a2 a2A a2B a3 a3A a3B a4 a4A a4B b0 b0A b0B b1 b1A b1B b2 b2A b2B b3 b3A b3B b4 b4A b4B tA1 tA2 tA tB1 tB2 tB
        have x0 := (obj_cells X).1 0 _ rfl
        have x1 := (obj_cells X).1 1 _ rfl
        have x2 := (obj_cells X).1 2 _ rfl
        have x3 := (obj_cells X).1 3 _ rfl
        have x4 := (obj_cells X).1 4 _ rfl
        have y0 := (obj_cells Y).1 0 _ rfl
        have y1 := (obj_cells Y).1 1 _ rfl
        have y2 := (obj_cells Y).1 2 _ rfl
        have y3 := (obj_cells Y).1 3 _ rfl
        have y4 := (obj_cells Y).1 4 _ rfl
        clear X Y
        go_wp2_with (go_at_call 86; refine (SI.out _ BX.out).mono ?_; rintro e w6 ⟨rfl, hb6⟩; have B6 := Lib.hid (BX2.out.trans (hb6.mono BX2.out.size)); clear hb6)
        go_roundw
        case rel => exact ⟨j + 1, by omega, by go_num, B6⟩
        case measure => simp [intOf]; omega
    · go_wp2_with fail
      go_ret
      exact ⟨rfl, BR.out⟩

end Go.Proofs.YtjmfjlffcopnnaaGreatDoor
