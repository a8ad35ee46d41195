/-
  The walk of minuetlaw16's SumPlaces under what the program's Sum answers. Conditions: as each theorem's premises say.
-/
import Derived.Test.YtgifemiolpbfhaaSu3
namespace Go.Proofs.Ytgifemiolpbfhaa
open Go.RowKit

set_option maxRecDepth 100000 in
set_option maxHeartbeats 2000000 in
theorem places_true (SC : SumC) (s : ByteArray) (ix jx : Int) (w : World) (hs : s.size ≤ 140737488355328) : Calls Try.prog 6 #[.string s, .int .i64 ix, .int .i64 jx] w (fun e w' => e = .returned (.bool true) ∧ Below w.heap.size w w') := by
  have AW := Lib.hid (fun W => awake_true SC W)
  go_enter Try.func6, Try.ntmps6
  go_upto_region 3 with (go_at_call 9; refine (AW.out _).mono ?_; rintro e w1 ⟨rfl, hb1⟩; have B1 := Lib.hid hb1; clear hb1)
  by_cases h0 : s.size < 2
  · go_wp2_with fail
    go_ret
    exact ⟨rfl, B1.out⟩
  · by_cases h1 : 5000 < s.size
    · go_wp2_with fail
      go_ret
      exact ⟨rfl, B1.out⟩
    · have hz0 : 0 < (s.size : Int) := by omega
      have hz1 : (s.size : Int) ≤ 5000 := by omega
      obtain ⟨x, hx, hxl⟩ := place_lt ix s.size (by omega) (by omega)
      obtain ⟨y, hy, hyl⟩ := place_lt jx s.size (by omega) (by omega)
      go_upto_region 5 with fail
      go_quiet (fail)
      have BQ : Hid (Below w.heap.size w (w1.drewN nq)) := Lib.hid (B1.out.trans ⟨rfl, rfl, rfl, Nat.le_refl _, fun _ _ => rfl⟩)
      generalize w1.drewN nq = w2 at BQ ⊢
      clear B1
      obtain ⟨cp, hcp⟩ : ∃ cp, grownCap w2 s.size 0 5 = cp := ⟨_, rfl⟩
      have CV := run_bytes_of_string (P := Try.prog) w2 9 25 5 s Try.underlying9 Try.underlying25 Try.underlying5
      rw [hcp] at CV
      have M3 := Lib.hid (made_br w2 s cp)
      have B3 := Lib.hid (BQ.out.trans ((below_draw w2 (.cells (bytesRow s cp) 5 ((bytesRow s cp).size, (bytesRow s cp).size + 1))).mono BQ.out.size))
      clear hcp
      go_upto_region 7 with fail
      clear CV
      generalize (w2.alloc (.cells (bytesRow s cp) 5 ((bytesRow s cp).size, (bytesRow s cp).size + 1))).drew = w3 at M3 B3 ⊢
      obtain ⟨bb, hbb⟩ : ∃ g, g = w2.heap.size := ⟨_, rfl⟩
      rw [← hbb] at M3 ⊢
      have HBB : Hid (w.heap.size ≤ bb) := Lib.hid (by rw [hbb]; exact BQ.out.size)
      clear hbb BQ
      have LL : Hid (s.data.toList.length = s.size) := Lib.hid (by simp)
      obtain ⟨p, hp⟩ : ∃ p, s.data.toList[x]? = some p := ⟨_, List.getElem?_eq_getElem (by rw [LL.out]; exact hxl)⟩
      obtain ⟨q, hq⟩ : ∃ q, s.data.toList[y]? = some q := ⟨_, List.getElem?_eq_getElem (by rw [LL.out]; exact hyl)⟩
      have c1 := M3.out.cell hp
      have c2 := M3.out.cell hq
      have hx0 : (0 : Int) ≤ (x : Int) := by omega
      have hx1 : (x : Int) < (s.size : Int) := by omega
      have hy0 : (0 : Int) ≤ (y : Int) := by omega
      have hy1 : (y : Int) < (s.size : Int) := by omega
      go_quiet (fail)
      have B4 : Hid (Below w.heap.size w (w3.drewN nq)) := Lib.hid (B3.out.trans ⟨rfl, rfl, rfl, Nat.le_refl _, fun _ _ => rfl⟩)
      have M4 : Hid (BR (w3.drewN nq) bb s.data.toList) := M3
      clear c1 c2 B3 M3
      generalize w3.drewN nq = w4 at B4 M4 ⊢
      have c1 := M4.out.cell hp
      have f1 := M4.out.frozen (j := x) (by rw [LL.out]; exact hxl)
      go_upto_region 9 with fail
      have M5 := Lib.hid (M4.out.set (j := x) (by rw [LL.out]; exact hxl) q)
      have B5 : Hid (Below w.heap.size w (w4.setCell ⟨bb, x, none⟩ (.int .u8 (q.toNat : Int)))) := Lib.hid (B4.out.setCell (p := ⟨bb, x, none⟩) HBB.out _)
      clear c1 f1 M4 B4
      generalize w4.setCell ⟨bb, x, none⟩ (.int .u8 (q.toNat : Int)) = w5 at B5 M5 ⊢
      obtain ⟨r, hr⟩ : ∃ r, (s.data.toList.set x q)[y]? = some r := ⟨_, List.getElem?_eq_getElem (by rw [List.length_set, LL.out]; exact hyl)⟩
      have c1 := M5.out.cell hr
      have f1 := M5.out.frozen (j := y) (by rw [List.length_set, LL.out]; exact hyl)
      go_upto_region 10 with fail
      have M6 := Lib.hid (M5.out.set (j := y) (by rw [List.length_set, LL.out]; exact hyl) p)
      have B6 : Hid (Below w.heap.size w (w5.setCell ⟨bb, y, none⟩ (.int .u8 (p.toNat : Int)))) := Lib.hid (B5.out.setCell (p := ⟨bb, y, none⟩) HBB.out _)
      clear c1 f1 M5 B5 hr
      generalize w5.setCell ⟨bb, y, none⟩ (.int .u8 (p.toNat : Int)) = w6 at B6 M6 ⊢
      obtain ⟨z, hz⟩ : ∃ z : ByteArray, z = ⟨((s.data.toList.set x q).set y p).toArray⟩ := ⟨_, rfl⟩
      have CB := M6.out.back s.size cp (by simp)
      rw [← hz] at CB
      have ZL : Hid (z.data.toList = (s.data.toList.set x q).set y p) := Lib.hid (by rw [hz])
      have hxl2 : x < s.data.toList.length := by rw [LL.out]; exact hxl
      have hyl2 : y < s.data.toList.length := by rw [LL.out]; exact hyl
      have PL : Hid (sumS z.data.toList = sumS s.data.toList ↔ (p = q ∨ x = y)) := Lib.hid (by
        have h := sum_places hxl2 hyl2 (by rw [LL.out]; omega)
        have ep : s.data.toList[x] = p := by
          rw [List.getElem?_eq_getElem hxl2] at hp
          exact Option.some.inj hp
        have eq : s.data.toList[y] = q := by
          rw [List.getElem?_eq_getElem hyl2] at hq
          exact Option.some.inj hq
        rw [ep, eq] at h
        rw [ZL.out]
        exact h)
      have SZ := Lib.hid (fun W => SC z W (by
        have := congrArg List.length ZL.out
        simp at this
        omega))
      have SS := Lib.hid (fun W => SC s W (by omega))
      generalize sumS z.data.toList = A at SZ PL
      generalize sumS s.data.toList = B at SS PL
      have AB : Hid (((A : Int) == (B : Int)) = decide (p = q ∨ x = y)) := Lib.hid (by
        rw [Bool.eq_iff_iff, beq_iff_eq, decide_eq_true_iff, ← PL.out]
        omega)
      have PQ : Hid (((p.toNat : Int) == (q.toNat : Int)) = decide (p = q)) := Lib.hid (by
        rw [Bool.eq_iff_iff, beq_iff_eq, decide_eq_true_iff, ← UInt8.toNat_inj]
        omega)
      have XY : Hid (((x : Int) == (y : Int)) = decide (x = y)) := Lib.hid (by
        rw [Bool.eq_iff_iff, beq_iff_eq, decide_eq_true_iff]
        omega)
      clear hz hp hq M6 ZL LL PL
      go_wp2_with fail
      refine (SZ.out _).mono ?_
      rintro e w7 ⟨rfl, hb7⟩
      have B7 := Lib.hid hb7; clear hb7 CB
      go_wp2_with fail
      refine (SS.out _).mono ?_
      rintro e w8 ⟨rfl, hb8⟩
      have B8 := Lib.hid hb8; clear hb8
      go_wp2_with fail
      all_goals go_ret
      · have e : p = q := UInt8.toNat_inj.1 (by omega)
        exact ⟨retB (by rw [AB.out, e]; simp), B6.out.trans ((B7.out.trans (B8.out.mono B7.out.size)).mono B6.out.size)⟩
      · exact ⟨retB (by rw [AB.out, PQ.out, XY.out, Bool.decide_or]; simp), B6.out.trans ((B7.out.trans (B8.out.mono B7.out.size)).mono B6.out.size)⟩


end Go.Proofs.Ytgifemiolpbfhaa
