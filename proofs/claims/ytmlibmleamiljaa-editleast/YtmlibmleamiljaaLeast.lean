/-
  The walk of the law EditLeast. Conditions: as the theorems' premises say.
-/
import Derived.Test.YtmlibmleamiljaaLeastM
import Derived.Test.YtmlibmleamiljaaAw
import Derived.BigQuiet
namespace Go.Proofs.Ytmlibmleamiljaa
open Go.RowKit

theorem ext_get {s : ByteArray} {x y i : Nat} (h : i < y - x) : (s.extract x y).data.toList[i]? = s.data.toList[x + i]? := by
  rw [ba_extract, List.getElem?_take_of_lt h, List.getElem?_drop]
/-- What the law's loop gathers of the edit between two texts. -/
theorem least_fin (s t : ByteArray) : ∃ (x y : Nat) (z G : ByteArray), atF (btw s t) = (x : Int) ∧ cutF (btw s t) = (y : Int) ∧ putF (btw s t) = z ∧ x + y ≤ s.size ∧ s.extract x (x + y) = G ∧ G.size = y ∧ z.size ≤ t.size ∧
    (y = 0 ∨ z.size = 0 ∨ (0 < y ∧ 0 < z.size ∧ (G.data.toList[0]? == z.data.toList[0]?) = false ∧ (G.data.toList[y - 1]? == z.data.toList[z.size - 1]?) = false)) := by
  obtain ⟨h1, h2⟩ := alike_le s t
  have hp := bt_put h2
  by_cases h : (t.extract (ahd s t) (t.size - bhd s t)).size = 0 ∧ s.size - ahd s t - bhd s t = 0
  · obtain ⟨e1, e2, e3⟩ := ed_none (a := ahd s t) (b := bhd s t) h.1
    have e : btw s t = normOf (edL (ahd s t) (t.extract (ahd s t) (t.size - bhd s t)) 0 (bhd s t)) := by unfold btw btL; rw [h.2]
    rw [e]
    exact ⟨_, 0, _, _, e1, e2, e3, by omega, rfl, by rw [ByteArray.size_extract]; omega, Nat.zero_le _, .inl rfl⟩
  · obtain ⟨e1, e2, e3⟩ := ed_some (a := ahd s t) (c := s.size - ahd s t - bhd s t) (b := bhd s t) h
    refine ⟨_, _, _, _, e1, e2, e3, by omega, rfl, by rw [ByteArray.size_extract]; omega, by omega, ?_⟩
    by_cases hy : s.size - ahd s t - bhd s t = 0
    · exact .inl hy
    by_cases hz : (t.extract (ahd s t) (t.size - bhd s t)).size = 0
    · exact .inr (.inl hz)
    obtain ⟨f1, f2⟩ := bt_ends (s := s) (t := t) (by omega) (by omega)
    refine .inr (.inr ⟨by omega, by omega, ?_, ?_⟩)
    · rw [ext_get (by omega), ext_get (by omega)]
      exact f1
    · rw [ext_get (by omega), ext_get (by omega), hp]
      unfold bwd at f2
      rw [show s.size - 1 - bhd s t = ahd s t + (s.size - ahd s t - bhd s t - 1) by omega, show t.size - 1 - bhd s t = ahd s t + (t.size - ahd s t - bhd s t - 1) by omega] at f2
      exact f2
theorem unlike_at {a b : ByteArray} {i j : Nat} (hi : i < a.size) (hj : j < b.size) (h : (a.data.toList[i]? == b.data.toList[j]?) = false) : ((a[i].toNat : Int) == (b[j].toNat : Int)) = false := by
  rw [byte_at a i hi, byte_at b j hj] at h
  rw [Bool.eq_false_iff] at h ⊢
  intro h2
  exact h (by rw [UInt8.toNat_inj.1 (Int.ofNat.inj (beq_iff_eq.1 h2))]; simp)
def atS (cs : List C) (j : Nat) : Int := if j = 0 then 0 else atF cs
theorem atS_pos {cs : List C} {j : Nat} (h : j ≠ 0) : atS cs j = atF cs := if_neg h
theorem atS_same {cs : List C} {j : Nat} (h : j = 0 → atF cs = 0) : atS cs (j + 1) = atS cs j := by
  by_cases h0 : j = 0
  · rw [atS_pos (Nat.succ_ne_zero j), h h0, atS, if_pos h0]
  · rw [atS_pos (Nat.succ_ne_zero j), atS_pos h0]

set_option maxRecDepth 100000 in
set_option maxHeartbeats 4000000 in
theorem least_no (s t : ByteArray) (w : World) (h : 4096 < s.size ∨ 4096 < t.size) : Calls Try.prog 6 #[.string s, .string t] w fun e w' => e = .returned (.bool true) ∧ Below w.heap.size w w' := by
  have H := Lib.hid h
  by_cases h1 : 4096 < s.size
  · clear h
    go_enter Try.func6, Try.ntmps6
    go_wp2_with fail
    refine (awake_true _).mono ?_
    rintro e w1 ⟨rfl, hb1⟩
    have B1 := Lib.hid hb1; clear hb1
    go_wp2_with fail
    refine (between_no s t _ H.out).mono ?_
    rintro e w2 ⟨rfl, hb2⟩
    have B2 := Lib.hid (B1.out.trans (hb2.mono B1.out.size)); clear hb2 B1
    go_wp2_with (go_at_call 13; refine (num_any _ _).mono ?_; rintro e w' ⟨rfl, rfl⟩)
    go_ret
    exact ⟨rfl, B2.out⟩
  · have h2 : 4096 < t.size := by omega
    clear h
    go_enter Try.func6, Try.ntmps6
    go_wp2_with fail
    refine (awake_true _).mono ?_
    rintro e w1 ⟨rfl, hb1⟩
    have B1 := Lib.hid hb1; clear hb1
    go_wp2_with fail
    refine (between_no s t _ H.out).mono ?_
    rintro e w2 ⟨rfl, hb2⟩
    have B2 := Lib.hid (B1.out.trans (hb2.mono B1.out.size)); clear hb2 B1
    go_wp2_with (go_at_call 13; refine (num_any _ _).mono ?_; rintro e w' ⟨rfl, rfl⟩)
    go_ret
    exact ⟨ret_bool (by simp; omega), B2.out⟩

set_option maxRecDepth 100000 in
set_option maxHeartbeats 8000000 in
theorem least_yes (s t : ByteArray) (w : World) (hs : s.size ≤ 4096) (ht : t.size ≤ 4096) : Calls Try.prog 6 #[.string s, .string t] w fun e w' => e = .returned (.bool true) ∧ Below w.heap.size w w' := by
  obtain ⟨x, y, z, G, f1, f2, f3, f4, f5, f6, f8, f7⟩ := least_fin s t
  have hok := okB_iff.1 (bt_may hs ht).1
  obtain ⟨A, hA⟩ : ∃ A, btw s t = A := ⟨_, rfl⟩
  rw [hA] at f1 f2 f3 hok
  have hl : A.length ≤ 4096 := hok.1
  have RAW := Lib.hid hok.2.1
  have HA := Lib.hid hA; have F1 := Lib.hid f1; have F2 := Lib.hid f2; have F3 := Lib.hid f3; have F4 := Lib.hid f4; have F5 := Lib.hid f5; have F6 := Lib.hid f6; have F7 := Lib.hid f7; have F8 := Lib.hid f8
  clear hok hA f1 f2 f3 f4 f5 f6 f7 f8
  go_enter Try.func6, Try.ntmps6
  go_wp2_with fail
  refine (awake_true _).mono ?_
  rintro e w1 ⟨rfl, hb1⟩
  have B1 := Lib.hid hb1; clear hb1
  go_wp2_with fail
  refine (between_yesL s t A HA.out _ hs ht).mono ?_
  rintro e w2 ⟨p2, c2, rfl, ho2, hb2⟩
  have O2 := Lib.hid ho2.row; have B2 := Lib.hid (B1.out.trans (hb2.mono B1.out.size)); clear hb2 ho2 B1
  go_wp2_with (go_at_call 13; refine (num_any _ _).mono ?_; rintro e w' ⟨rfl, rfl⟩)
  go_loopw [7, 8, 9, 10] (fun a c p v wr => ∃ j : Nat, j ≤ A.length ∧ a = .int .i64 (atS A j) ∧ c = .int .i64 (cutF (A.take j)) ∧ p = .string (putF (A.take j)) ∧ v = .int .i64 j ∧ wr = w2) (fun _ _ _ v _ => A.length - (intOf v).toNat)
  case atStart => exact ⟨0, Nat.zero_le _, rfl, rfl, rfl, rfl, rfl⟩
  case round =>
    obtain ⟨j, hj, rfl, rfl, rfl, rfl, rfl⟩ := hrel
    by_cases hlt : j < A.length
    · have hc := List.getElem?_eq_getElem hlt
      generalize A[j] = c at hc
      have hcr := RAW.out c (List.mem_of_getElem? hc)
      have E2 := Lib.hid (cutF_succ hc)
      have E3 := Lib.hid (putF_succ hc)
      have E1 : Hid (j = 0 → atF A = if c.k = 0 then c.n else 0) := Lib.hid (fun h => atF_zero (by rw [← h]; exact hc))
      obtain ⟨b, o, rfl, hp⟩ := O2.out j c hc
      obtain ⟨c0, c1, c2⟩ := hp
      clear hc
      obtain ⟨a', ha'⟩ : ∃ a', atS A j = a' := ⟨_, rfl⟩
      have HA' := Lib.hid ha'
      rw [ha']
      clear ha'
      obtain ⟨k, n, u⟩ := c
      dsimp only at c0 c1 c2
      rcases hcr with ⟨hk | hk, h1, h2, h3⟩ | ⟨hk, h1, h2⟩ <;> dsimp only at hk h1 h2 <;> subst hk
      · by_cases h0 : j = 0
        · have E1' := Lib.hid (E1.out h0)
          have d0 : ((j : Int) == 0) = true := by simp [h0]
          have H0 := Lib.hid h0
          clear h0
          go_wp2_with fail
          go_roundw
          case rel => exact ⟨j + 1, by omega, by rw [atS_pos (Nat.succ_ne_zero j), E1'.out]; rfl, by rw [E2.out]; rfl, by rw [E3.out]; rfl, by go_num, trivial⟩
          case measure => simp [intOf]; omega
        · have d0 : ((j : Int) == 0) = false := by simp [h0]
          have H0 := Lib.hid h0
          clear h0
          go_wp2_with fail
          go_roundw
          case rel => exact ⟨j + 1, by omega, by rw [← HA'.out, atS_pos H0.out, atS_pos (Nat.succ_ne_zero j)], by rw [E2.out]; rfl, by rw [E3.out]; rfl, by go_num, trivial⟩
          case measure => simp [intOf]; omega
      · go_wp2_with fail
        go_roundw
        case rel => exact ⟨j + 1, by omega, by rw [← HA'.out, atS_same (fun h => by rw [E1.out h]; rfl)], by rw [E2.out]; rfl, by rw [E3.out]; rfl, by go_num, trivial⟩
        case measure => simp [intOf]; omega
      · go_wp2_with fail
        go_roundw
        case rel => exact ⟨j + 1, by omega, by rw [← HA'.out, atS_same (fun h => by rw [E1.out h]; rfl)], by rw [E2.out]; rfl, by rw [E3.out]; rfl, by go_num, trivial⟩
        case measure => simp [intOf]; omega
    · have hjj : A.length ≤ j := by omega
      have e1 : atS A j = (x : Int) := by
        by_cases h0 : j = 0
        · have hn : A = [] := List.eq_nil_of_length_eq_zero (by omega)
          have := F1.out
          rw [hn] at this
          rw [atS, if_pos h0, ← this]; rfl
        · rw [atS_pos h0]; exact F1.out
      have e2 : cutF (A.take j) = (y : Int) := by rw [List.take_of_length_le hjj]; exact F2.out
      have e3 : putF (A.take j) = z := by rw [List.take_of_length_le hjj]; exact F3.out
      rw [e1, e2, e3]
      have f4 := F4.out
      clear e1 e2 e3 hjj RAW HA F1 F2 F3 O2
      by_cases hy : y = 0
      · subst hy
        clear F5 F6 F7
        go_wp2_with fail
        go_ret
        exact ⟨rfl, B2.out⟩
      · have hG := F5.out
        have hE : G.toList.isEmpty = false := by rw [isEmpty_size, F6.out]; exact decide_eq_false hy
        have HY := Lib.hid hy
        by_cases hz : z.size = 0
        · have hz' := e0_of hz
          unfold e0 at hz'
          subst hz'
          clear hz F7 hy
          go_wp2_with fail
          go_ret
          exact ⟨rfl, B2.out⟩
        · obtain ⟨g1, g2, g3, g4⟩ : 0 < y ∧ 0 < z.size ∧ (G.data.toList[0]? == z.data.toList[0]?) = false ∧ (G.data.toList[y - 1]? == z.data.toList[z.size - 1]?) = false := by
            rcases F7.out with h | h | h
            · exact absurd h hy
            · exact absurd h hz
            · exact h
          have hE2 : z.toList.isEmpty = false := by rw [isEmpty_size]; exact decide_eq_false hz
          obtain ⟨L1, hL1⟩ : ∃ L1 : Nat, L1 + 1 = G.size := ⟨G.size - 1, by have := F6.out; omega⟩
          obtain ⟨L2, hL2⟩ : ∃ L2 : Nat, L2 + 1 = z.size := ⟨z.size - 1, by omega⟩
          have i1 : 0 < G.size := by omega
          have i2 : L1 < G.size := by omega
          have i3 : L2 < z.size := by omega
          have w1' : IntKind.i64.wrap ((G.size : Int) - 1) = (L1 : Int) := by have := F6.out; rw [IntWalk.i64_in _ (by omega)]; omega
          have w2' : IntKind.i64.wrap ((z.size : Int) - 1) = (L2 : Int) := by have := F8.out; rw [IntWalk.i64_in _ (by omega)]; omega
          have q1 := unlike_at i1 g2 g3
          rw [show y - 1 = L1 by have := F6.out; omega, show z.size - 1 = L2 by omega] at g4
          have q2 := unlike_at i2 i3 g4
          have q3 : ((G[0].toNat : Int) != (z[0].toNat : Int)) = true := by rw [bne, q1]; rfl
          have q4 : ((G[L1].toNat : Int) != (z[L2].toNat : Int)) = true := by rw [bne, q2]; rfl
          have j1 : (0 : Int) < (G.size : Int) := by omega
          have j2 : (0 : Int) < (z.size : Int) := by omega
          have j3 : (0 : Int) ≤ (L1 : Int) := by omega
          have j4 : (L1 : Int) < (G.size : Int) := by omega
          have j5 : (0 : Int) ≤ (L2 : Int) := by omega
          have j6 : (L2 : Int) < (z.size : Int) := by omega
          clear hy hz hL1 hL2 F7 g3 g4 q1 q2
          go_wp2_with fail
          go_quiet (fail)
          go_wp2_with fail
          go_ret
          exact ⟨rfl, B2.out.trans ((dr_below _ _).mono B2.out.size)⟩

theorem least_true (s t : ByteArray) (w : World) : Calls Try.prog 6 #[.string s, .string t] w fun e w' => e = .returned (.bool true) ∧ Below w.heap.size w w' := by
  by_cases h : 4096 < s.size ∨ 4096 < t.size
  · exact least_no s t w h
  · exact least_yes s t w (by omega) (by omega)

end Go.Proofs.Ytmlibmleamiljaa
