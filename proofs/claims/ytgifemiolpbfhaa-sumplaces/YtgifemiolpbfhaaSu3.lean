/-
  A text as bytes in memory, one of them written over; the walk of minuetlaw16's SumTurned under what the program's Sum answers. Conditions: as each theorem's premises say.
-/
import Derived.Test.YtgifemiolpbfhaaSu2
import Derived.Laws.IdiomStrings
import Derived.Laws.BitsAllLaws
namespace Go.Proofs.Ytgifemiolpbfhaa
open Go.RowKit

/-- Block b holds these bytes, none of them frozen. -/
def BR (W : World) (b : Nat) (l : List UInt8) : Prop := ∃ cur lo hi, W.heap[b]? = some (.cells cur 5 (lo, hi)) ∧ (∀ (j : Nat) (u : UInt8), l[j]? = some u → cur[j]? = some (.int .u8 (u.toNat : Int))) ∧ l.length ≤ lo
theorem BR.cell {W : World} {b : Nat} {l : List UInt8} (h : BR W b l) {j : Nat} {u : UInt8} (hj : l[j]? = some u) : W.cell? ⟨b, j, none⟩ = some (.int .u8 (u.toNat : Int)) := by
  obtain ⟨cur, lo, hi, hb, hc, -⟩ := h
  simp [World.cell?, hb, hc j u hj]
theorem BR.frozen {W : World} {b : Nat} {l : List UInt8} (h : BR W b l) {j : Nat} (hj : j < l.length) : W.frozen? ⟨b, j, none⟩ = false := by
  obtain ⟨cur, lo, hi, hb, -, hl⟩ := h
  simp [World.frozen?, hb]
  omega
theorem BR.lt {W : World} {b : Nat} {l : List UInt8} (h : BR W b l) : b < W.heap.size := by
  obtain ⟨cur, lo, hi, hb, -⟩ := h
  exact (Array.getElem?_eq_some_iff.1 hb).1
theorem BR.below {W W' : World} {b : Nat} {l : List UInt8} (h : BR W b l) (hb : Below W.heap.size W W') : BR W' b l := by
  have hl := h.lt
  obtain ⟨cur, lo, hi, h1, h2⟩ := h
  exact ⟨cur, lo, hi, (hb.block b hl).trans h1, h2⟩
theorem BR.set {W : World} {b : Nat} {l : List UInt8} (h : BR W b l) {j : Nat} (hj : j < l.length) (v : UInt8) : BR (W.setCell ⟨b, j, none⟩ (.int .u8 (v.toNat : Int))) b (l.set j v) := by
  obtain ⟨cur, lo, hi, h1, h2, h3⟩ := h
  refine ⟨cur.setIfInBounds j (.int .u8 (v.toNat : Int)), lo, hi, by simp [World.setCell, Array.getElem?_modify, h1], fun k u hk => ?_, by simpa using h3⟩
  by_cases e : k = j
  · subst e
    rw [List.getElem?_set_self hj] at hk
    cases hk
    have := h2 k l[k] (List.getElem?_eq_getElem hj)
    rw [Array.getElem?_setIfInBounds_self_of_lt (Array.getElem?_eq_some_iff.1 this).1]
  · rw [List.getElem?_set_ne (Ne.symm e)] at hk
    rw [Array.getElem?_setIfInBounds_ne (Ne.symm e)]
    exact h2 k u hk
theorem BR.back {W : World} {b : Nat} {l : List UInt8} (h : BR W b l) (n cap : Nat) (hn : l.length = n) : (convert 25 9 (.slice (some ⟨b, 0, none⟩) n cap)).run Try.prog W = .ok (.string ⟨l.toArray⟩) W := by
  subst hn
  refine run_convert_bytes_back (P := Try.prog) W 25 9 5 ⟨b, 0, none⟩ cap l Try.underlying25 Try.underlying5 Try.underlying9 fun j hj => ?_
  have := h.cell (List.getElem?_eq_getElem hj)
  rw [show (⟨b, 0, none⟩ : Addr).add j = ⟨b, j, none⟩ from by unfold Addr.add; split <;> simp_all]
  exact this
theorem made_br (w : World) (s : ByteArray) (cp : Nat) : BR ((w.alloc (.cells (bytesRow s cp) 5 ((bytesRow s cp).size, (bytesRow s cp).size + 1))).drew) w.heap.size s.data.toList := by
  refine ⟨_, _, _, heap_alloc_new w _, fun j u hj => ?_, ?_⟩
  · have hl := (List.getElem?_eq_some_iff.1 hj).1
    have hl2 : j < s.data.size := by simpa using hl
    rw [bytesRow_at s cp j hl2]
    have := (List.getElem?_eq_some_iff.1 hj).2
    rw [Array.getElem_toList] at this
    rw [this]
  · unfold bytesRow
    simp
theorem below_drew {n : Nat} {w W : World} (h : Below n w W) : Below n w W.drew := ⟨h.os, h.tape, h.output, h.size, h.block⟩
theorem below_draw (w : World) (o : Obj) : Below w.heap.size w (w.alloc o).drew := below_drew ((Below.refl _ w).alloc (Nat.le_refl _) o)
theorem place_lt (a : Int) (n : Nat) (h0 : 0 < n) (hn : n ≤ 1000000) : ∃ q : Nat, wrap64 ((IntKind.u64.wrap a).tmod (n : Int)) = (q : Int) ∧ q < n := by
  have h1 : 0 ≤ IntKind.u64.wrap a := by
    unfold IntKind.wrap
    simp only [IntKind.signed, Bool.false_and]
    exact Int.emod_nonneg _ (by decide)
  have h2 : 0 ≤ (IntKind.u64.wrap a).tmod (n : Int) := Int.tmod_nonneg _ h1
  have h3 : (IntKind.u64.wrap a).tmod (n : Int) < (n : Int) := Int.tmod_lt_of_pos _ (by omega)
  refine ⟨((IntKind.u64.wrap a).tmod (n : Int)).toNat, ?_, by omega⟩
  rw [IntWalk.wrap64_in _ (by omega)]
  omega
theorem and254 (a : Int) : ∃ q : Nat, bits BinOp.and IntKind.i64 a 254 = (q : Int) ∧ q ≤ 254 := by
  have h : (BitVec.ofInt 64 a &&& BitVec.ofInt 64 254).toNat ≤ 254 := by
    rw [BitVec.toNat_and]
    exact Nat.le_trans Nat.and_le_right (by decide)
  refine ⟨(BitVec.ofInt 64 a &&& BitVec.ofInt 64 254).toNat, ?_, h⟩
  show IntKind.i64.wrap ((BitVec.ofInt 64 a &&& BitVec.ofInt 64 254).toNat : Int) = _
  rw [IntKind.wrap_i64]
  omega
theorem flip_ne (u : UInt8) (d : Nat) (h0 : 0 < d) (h : d < 256) : ∃ v : UInt8, v ≠ u ∧ bits .xor .u8 (u.toNat : Int) (d : Int) = (v.toNat : Int) := by
  have hu := u.toNat_lt
  have hx : u.toNat ^^^ d < 256 := Nat.xor_lt_two_pow (n := 8) hu h
  refine ⟨UInt8.ofNat (u.toNat ^^^ d), fun e => ?_, ?_⟩
  · have e2 := congrArg UInt8.toNat e
    rw [UInt8.toNat_ofNat', Nat.mod_eq_of_lt hx] at e2
    have e3 := congrArg (fun x => u.toNat ^^^ x) e2
    simp only [← Nat.xor_assoc, Nat.xor_self, Nat.zero_xor] at e3
    omega
  · rw [u8_xor_nat _ _ hu h, UInt8.toNat_ofNat', Nat.mod_eq_of_lt hx]

set_option maxRecDepth 100000 in
set_option maxHeartbeats 2000000 in
theorem turned_true (SC : SumC) (s : ByteArray) (at' bx : Int) (w : World) (hs : s.size ≤ 140737488355328) : Calls Try.prog 4 #[.string s, .int .i64 at', .int .i64 bx] w (fun e w' => e = .returned (.bool true) ∧ Below w.heap.size w w') := by
  have AW := Lib.hid (fun W => awake_true SC W)
  go_enter Try.func4, Try.ntmps4
  go_upto_region 3 with (go_at_call 9; refine (AW.out _).mono ?_; rintro e w1 ⟨rfl, hb1⟩; have B1 := Lib.hid hb1; clear hb1)
  by_cases h0 : s.size < 1
  · go_wp2_with fail
    go_ret
    exact ⟨rfl, B1.out⟩
  · by_cases h1 : 1000000 < s.size
    · go_wp2_with fail
      go_ret
      exact ⟨rfl, B1.out⟩
    · obtain ⟨cp, hcp⟩ : ∃ cp, grownCap w1 s.size 0 5 = cp := ⟨_, rfl⟩
      have CV := run_bytes_of_string (P := Try.prog) w1 9 25 5 s Try.underlying9 Try.underlying25 Try.underlying5
      rw [hcp] at CV
      have M2 := Lib.hid (made_br w1 s cp)
      have B2 := Lib.hid (below_draw w1 (.cells (bytesRow s cp) 5 ((bytesRow s cp).size, (bytesRow s cp).size + 1)))
      clear hcp
      go_upto_region 6 with fail
      clear CV
      generalize (w1.alloc (.cells (bytesRow s cp) 5 ((bytesRow s cp).size, (bytesRow s cp).size + 1))).drew = w2 at M2 B2 ⊢
      obtain ⟨bb, hbb⟩ : ∃ g, g = w1.heap.size := ⟨_, rfl⟩
      rw [← hbb] at M2 ⊢
      have HBB : Hid (w1.heap.size ≤ bb) := Lib.hid (by omega)
      clear hbb
      have hz0 : 0 < (s.size : Int) := by omega
      have hz1 : (s.size : Int) ≤ 1000000 := by omega
      obtain ⟨q, hq, hql⟩ := place_lt at' s.size (by omega) (by omega)
      obtain ⟨u, hu⟩ : ∃ u, s.data.toList[q]? = some u := ⟨_, List.getElem?_eq_getElem (by simpa using hql)⟩
      obtain ⟨d, hd, hd2⟩ := and254 bx
      obtain ⟨v, hvu, hv⟩ := flip_ne u (1 + d) (by omega) (by omega)
      have c := M2.out.cell hu
      have f := M2.out.frozen (j := q) (by simpa using hql)
      have hq0 : (0 : Int) ≤ (q : Int) := by omega
      have hq1 : (q : Int) < (s.size : Int) := by omega
      have hv' : bits BinOp.xor IntKind.u8 (u.toNat : Int) (1 + (d : Int)) = (v.toNat : Int) := by simpa using hv
      have hql2 : q < s.data.toList.length := by simpa using hql
      go_upto_region 8 with fail
      have M3 := Lib.hid (M2.out.set hql2 v)
      have B3 : Hid (Below w1.heap.size w1 (w2.setCell ⟨bb, q, none⟩ (.int .u8 (v.toNat : Int)))) := Lib.hid (B2.out.setCell (p := ⟨bb, q, none⟩) HBB.out _)
      clear c f hv hv' hd
      generalize w2.setCell ⟨bb, q, none⟩ (.int .u8 (v.toNat : Int)) = w3 at M3 B3 ⊢
      obtain ⟨z, hz⟩ : ∃ z : ByteArray, z = ⟨(s.data.toList.set q v).toArray⟩ := ⟨_, rfl⟩
      have CB := M3.out.back s.size cp (by simp)
      rw [← hz] at CB
      have ZL : Hid (z.data.toList = s.data.toList.set q v) := Lib.hid (by rw [hz])
      have hu2 : s.data.toList[q] = u := by
        rw [List.getElem?_eq_getElem hql2] at hu
        exact Option.some.inj hu
      have ZN : ¬ z = s := by
        intro e
        have e2 := ZL.out
        rw [e] at e2
        have e3 := congrArg (fun x : List UInt8 => x[q]?) e2
        simp only [List.getElem?_set_self hql2, List.getElem?_eq_getElem hql2, hu2] at e3
        exact hvu (Option.some.inj e3).symm
      have NE : Hid (sumS z.data.toList ≠ sumS s.data.toList) := Lib.hid (by
        rw [ZL.out]
        exact sum_turned hql2 (by simp; omega) (by rw [hu2]; exact hvu))
      have SZ := Lib.hid (fun W => SC z W (by
        have := congrArg List.length ZL.out
        simp at this
        omega))
      have SS := Lib.hid (fun W => SC s W (by omega))
      generalize sumS z.data.toList = A at SZ NE
      generalize sumS s.data.toList = B at SS NE
      have NQ : ((A : Int) == (B : Int)) = false := by
        rw [beq_eq_false_iff_ne]
        have := NE.out
        omega
      clear hz hu hu2 hvu M3 ZL
      go_wp2_with fail
      · go_ret
        exact ⟨rfl, B1.out.trans (B3.out.mono B1.out.size)⟩
      · refine (SZ.out _).mono ?_
        rintro e w4 ⟨rfl, hb4⟩
        have B4 := Lib.hid hb4; clear hb4 CB
        go_wp2_with fail
        refine (SS.out _).mono ?_
        rintro e w5 ⟨rfl, hb5⟩
        have B5 := Lib.hid hb5; clear hb5
        go_wp2_with fail
        go_ret
        exact ⟨retB (by rw [bne, NQ]; simp), B1.out.trans ((B3.out.trans ((B4.out.trans (B5.out.mono B4.out.size)).mono B3.out.size)).mono B1.out.size)⟩

end Go.Proofs.Ytgifemiolpbfhaa
