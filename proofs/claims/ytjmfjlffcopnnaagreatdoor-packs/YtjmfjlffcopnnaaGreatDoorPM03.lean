/-
  KW16, KArgs, in one text. Conditions: as each theorem's premises say.
-/
import Derived.Test.YtjmfjlffcopnnaaGreatDoorPM02
import Derived.Test.YtjmfjlffcopnnaaGreatDoorPM00
import Derived.ProofKit
import Derived.OpenShut
import Derived.Deep.Slices
import Derived.SizedLaws
namespace Go.Proofs.YtjmfjlffcopnnaaGreatDoor.K
open Go.RowKit

def RLenPost (cs : List C) (w : World) (e : Ending) (w' : World) : Prop :=
  e = .returned (.tuple #[.int .i64 (sumOf fromC cs), .int .i64 (sumOf toC cs)]) ∧ Below w.heap.size w w'

theorem mem_take_sum {cs : List C} (hs : ∀ c ∈ cs, c.Soft) {f : C → Int} (hf : ∀ c : C, c.Soft → 0 ≤ f c) (j : Nat) : 0 ≤ sumOf f (cs.take j) ∧ sumOf f (cs.take j) ≤ sumOf f cs :=
  ⟨sumOf_nonneg fun c hc => hf c (hs c (List.mem_of_mem_take hc)), sumOf_take_le (fun c hc => hf c (hs c hc)) j⟩

set_option maxHeartbeats 2000000 in
theorem rlen_any (p : Option Addr) (cs : List C) (cap : Nat) (w : World) (hr : RowC w p cs) (hl : cs.length ≤ 8192) (hs : ∀ c ∈ cs, c.Soft) (hf : ∀ c ∈ cs, Fit c) (h1 : sumOf fromC cs ≤ 16777216) (h2 : sumOf toC cs ≤ 16777216) : Calls Tryz.prog 134 #[.slice p cs.length cap] w (RLenPost cs w) := by
  have R := Lib.hid hr; have SO := Lib.hid hs; have FI := Lib.hid hf
  have FB := Lib.hid (fun j => mem_take_sum hs (f := fromC) (fun _ h => from_nonneg h) j)
  have TB := Lib.hid (fun j => mem_take_sum hs (f := toC) (fun _ h => to_nonneg h) j)
  clear hr hs hf
  go_enter Tryz.func134, Tryz.ntmps134
  go_wp2_with fail
  go_loopw [4, 5, 6] (fun f t i wr => ∃ j : Nat, j ≤ cs.length ∧ i = .int .i64 j ∧ f = .int .i64 (sumOf fromC (cs.take j)) ∧ t = .int .i64 (sumOf toC (cs.take j)) ∧ Hid (Below w.heap.size w wr)) (fun _ _ i _ => cs.length - (intOf i).toNat)
  case atStart => exact ⟨0, Nat.zero_le _, rfl, rfl, rfl, Lib.hid (Below.refl _ _)⟩
  case round =>
    obtain ⟨j, hj, rfl, rfl, rfl, B⟩ := hrel
    obtain ⟨a0, a1⟩ := FB.out j
    obtain ⟨b0, b1⟩ := TB.out j
    have a2 : sumOf fromC (cs.take j) ≤ 16777216 := Int.le_trans a1 h1
    have b2 : sumOf toC (cs.take j) ≤ 16777216 := Int.le_trans b1 h2
    clear a1 b1
    by_cases hlt : j < cs.length
    · have hc := List.getElem?_eq_getElem hlt
      generalize cs[j] = c at hc
      have hcs := SO.out c (List.mem_of_getElem? hc)
      obtain ⟨f1, f2, f3⟩ := FI.out c (List.mem_of_getElem? hc)
      have E1 := Lib.hid (sumOf_take_succ (f := fromC) hc)
      have E2 := Lib.hid (sumOf_take_succ (f := toC) hc)
      obtain ⟨b, o, rfl, hp⟩ := R.out j c hc
      obtain ⟨c0, c1, c2⟩ := hp.below B.out
      clear hc hp
      obtain ⟨k, n, t⟩ := c
      dsimp only at c0 c1 c2 f1 f2 f3
      have HS := Lib.hid hcs
      rcases hcs with ⟨hk | hk, g1, g2⟩ | ⟨hk, g1⟩ <;> dsimp only at hk g1 <;> subst hk
      · dsimp only at g2
        go_wp2_with (go_at_call 147; refine (rsize_any _ _ _ _ HS.out).mono ?_; rintro e w2 ⟨rfl, hb2⟩; replace c0 := cell_later hb2 c0; have B2 := Lib.hid (B.out.trans (hb2.mono B.out.size)); clear hb2)
        go_roundw
        case rel => exact ⟨j + 1, by omega, by go_num, congrArg (Value.int .i64) (by rw [E1.out]; simp [fromC]), congrArg (Value.int .i64) (by rw [E2.out]; simp [toC, C.sz, g2]), B2⟩
        case measure => simp [intOf]; omega
      · dsimp only at g2
        go_wp2_with (go_at_call 147; refine (rsize_any _ _ _ _ HS.out).mono ?_; rintro e w2 ⟨rfl, hb2⟩; replace c0 := cell_later hb2 c0; have B2 := Lib.hid (B.out.trans (hb2.mono B.out.size)); clear hb2)
        go_roundw
        case rel => exact ⟨j + 1, by omega, by go_num, congrArg (Value.int .i64) (by rw [E1.out]; simp [fromC]), congrArg (Value.int .i64) (by rw [E2.out]; simp [toC]), B2⟩
        case measure => simp [intOf]; omega
      · subst g1
        go_wp2_with (go_at_call 147; refine (rsize_any _ _ _ _ HS.out).mono ?_; rintro e w2 ⟨rfl, hb2⟩; replace c0 := cell_later hb2 c0; have B2 := Lib.hid (B.out.trans (hb2.mono B.out.size)); clear hb2)
        go_roundw
        case rel => exact ⟨j + 1, by omega, by go_num, congrArg (Value.int .i64) (by rw [E1.out]; simp [fromC]), congrArg (Value.int .i64) (by rw [E2.out]; simp [toC, C.sz]), B2⟩
        case measure => simp [intOf]; omega
    · go_wp2_with fail
      go_ret2
      refine ⟨?_, B.out⟩
      rw [List.take_of_length_le (by omega)]
      rfl

theorem rlen_anyL (p : Option Addr) (cs : List C) (L cap : Nat) (hL : cs.length = L) (w : World) (hr : RowC w p cs) (hl : L ≤ 8192) (hs : ∀ c ∈ cs, c.Soft) (hf : ∀ c ∈ cs, Fit c) (h1 : sumOf fromC cs ≤ 16777216) (h2 : sumOf toC cs ≤ 16777216) : Calls Tryz.prog 134 #[.slice p L cap] w (RLenPost cs w) := by
  subst hL; exact rlen_any p cs cap w hr hl hs hf h1 h2

set_option maxHeartbeats 400000 in
theorem rnormal_long (p : Option Addr) (cs : List C) (cap : Nat) (w : World) (hl : 4096 < cs.length) : Calls Tryz.prog 96 #[.slice p cs.length cap] w (NormPost cs w) := by
  have h0 : okB cs = false := by simp [okB]; omega
  have HO := Lib.hid h0
  clear h0
  go_enter Tryz.func96, Tryz.ntmps96
  go_wp2_with fail
  go_ret2
  exact ⟨Below.refl _ _, .inr ⟨HO.out, rfl⟩⟩

set_option maxHeartbeats 2000000 in
theorem rnormal_short (p : Option Addr) (cs : List C) (cap : Nat) (w : World) (hr : RowC w p cs) (hl : cs.length ≤ 4096) : Calls Tryz.prog 96 #[.slice p cs.length cap] w (NormPost cs w) := by
  have R := Lib.hid hr; clear hr
  go_enter Tryz.func96, Tryz.ntmps96
  go_wp2_with fail
  go_loopw [4, 5] (fun v i wr => ∃ j : Nat, j ≤ cs.length ∧ i = .int .i64 j ∧ Hid (∀ c ∈ cs.take j, c.Raw) ∧ Hid (Own wr w.heap.size v (normOf (cs.take j))) ∧ Hid (Below w.heap.size w wr)) (fun _ i _ => cs.length - (intOf i).toNat)
  case atStart => exact ⟨0, Nat.zero_le _, rfl, Lib.hid (by simp), Lib.hid (Own.nil _ _), Lib.hid (Below.refl _ _)⟩
  case round =>
    obtain ⟨j, hj, rfl, HR, O, B⟩ := hrel
    by_cases hlt : j < cs.length
    · have hc := List.getElem?_eq_getElem hlt
      generalize cs[j] = c at hc
      have HC := Lib.hid hc
      obtain ⟨b, o, rfl, hp⟩ := R.out j c hc
      obtain ⟨c0, c1, c2⟩ := hp.below B.out
      by_cases hraw : c.Raw
      · have HRS := Lib.hid (raw_step HR.out HC.out hraw)
        have hfit := Lib.hid (fit_raw hraw)
        have hsoft := Lib.hid (Raw.soft hraw)
        have HRB : Hid (rawB c = true) := Lib.hid (decide_eq_true hraw)
        have HL : Hid ((normOf (cs.take j)).length ≤ 8192) := Lib.hid (by have := normOf_length (cs.take j); rw [List.length_take] at this; omega)
        have HFI : Hid (∀ x ∈ normOf (cs.take j), Fit x) := Lib.hid (fit_norm HR.out (by rw [List.length_take]; omega))
        clear hc hraw hp
        obtain ⟨k, n, t⟩ := c
        dsimp only at c0 c1 c2
        have CALL : Hid (∀ W, Below wr.heap.size wr W → Calls Tryz.prog 133 #[u4, .agg #[.int .i64 k, .int .i64 n, .string t]] W (AddPost w.heap.size u4 (addC (normOf (cs.take j)) ⟨k, n, t⟩) W)) := Lib.hid (fun W hW => radd_any w.heap.size ⟨k, n, t⟩ hfit.out hsoft.out _ HL.out HFI.out u4 W (O.out.below hW) (Nat.le_trans B.out.size hW.size))
        have BL : Hid (∀ W e w3, Below wr.heap.size wr W → AddPost w.heap.size u4 (addC (normOf (cs.take j)) ⟨k, n, t⟩) W e w3 → Below w.heap.size w w3) := Lib.hid (fun W e w3 hW h => h.below (O.out.below hW) (B.out.trans (hW.mono B.out.size)) (Nat.le_refl _) (Nat.le_trans B.out.size hW.size))
        go_wp2_with (first | (go_at_call 132; refine (rmay_any ⟨k, n, t⟩ _).mono ?_; rintro e w1 ⟨rfl, hb1⟩; rw [HRB.out]; replace c0 := cell_later hb1 c0; replace c1 := cell_later hb1 c1; replace c2 := cell_later hb1 c2; have B1 := Lib.hid hb1; clear hb1) | (go_at_call 133; refine (CALL.out _ B1.out).mono ?_; intro e w3 hpost; have B3 := Lib.hid (BL.out _ _ _ B1.out hpost); obtain ⟨v3, rfl, hown3, -, -⟩ := hpost; have O3 := Lib.hid hown3; clear hown3))
        go_roundw
        case rel => exact ⟨j + 1, by omega, by go_num, HRS, by rw [normOf_take_succ HC.out]; exact O3, B3⟩
        case measure => simp [intOf]; omega
      · have HRB : Hid (rawB c = false) := Lib.hid (decide_eq_false hraw)
        have HO : Hid (okB cs = false) := Lib.hid (by
          cases h : okB cs with
          | false => rfl
          | true => exact absurd ((okB_iff.1 h).2.1 _ (List.mem_of_getElem? HC.out)) hraw)
        clear hc hp hraw
        obtain ⟨k, n, t⟩ := c
        dsimp only at c0 c1 c2
        go_wp2_with (go_at_call 132; refine (rmay_any ⟨k, n, t⟩ _).mono ?_; rintro e w1 ⟨rfl, hb1⟩; rw [HRB.out])
        go_ret2
        exact ⟨B.out.trans (hb1.mono B.out.size), .inr ⟨HO.out, rfl⟩⟩
    · have hjj : cs.take j = cs := List.take_of_length_le (by omega)
      have hO := O.out
      have hR := HR.out
      rw [hjj] at hO hR
      obtain ⟨p4, cap4, hv⟩ := hO.form
      subst hv
      have hs := soft_all hR
      have b1 := sum_bounds from_bounds cs hR
      have b2 := sum_bounds to_bounds cs hR
      have e1 := sum_normOf from_join from_zero cs hs
      have e2 := sum_normOf to_join to_zero cs hs
      have hnl := normOf_length cs
      obtain ⟨NL, hNL⟩ : ∃ x, (normOf cs).length = x := ⟨_, rfl⟩
      rw [hNL]
      obtain ⟨F, hF⟩ : ∃ x, sumOf fromC cs = x := ⟨_, rfl⟩
      obtain ⟨T, hT⟩ : ∃ x, sumOf toC cs = x := ⟨_, rfl⟩
      have L : Hid (Calls Tryz.prog 134 #[.slice p4 NL cap4] wr fun e w' => e = .returned (.tuple #[.int .i64 F, .int .i64 T]) ∧ Below wr.heap.size wr w') := Lib.hid (by
        refine (rlen_anyL p4 (normOf cs) NL cap4 hNL wr hO.row (by omega) (normOf_soft cs hs) (fit_norm hR hl) (by omega) (by omega)).mono ?_
        rintro e w' ⟨rfl, hb⟩
        exact ⟨by rw [e1, e2, hF, hT], hb⟩)
      have OK : Hid (okB cs = true ↔ F ≤ 4096 ∧ T ≤ 4096) := Lib.hid (by rw [okB_iff, hF, hT]; exact ⟨fun h => h.2.2, fun h => ⟨hl, hR, h⟩⟩)
      have ON := Lib.hid hO
      rw [hNL] at ON
      clear hjj hO hR hs b1 b2 e1 e2 hnl hNL hF hT O HR
      by_cases g1 : F ≤ 4096
      · by_cases g2 : T ≤ 4096
        · go_wp2_with (go_at_call 134; refine L.out.mono ?_; rintro e w5 ⟨rfl, hb5⟩)
          go_ret2
          exact ⟨B.out.trans (hb5.mono B.out.size), .inl ⟨OK.out.2 ⟨g1, g2⟩, _, rfl, ON.out.below hb5⟩⟩
        · go_wp2_with (go_at_call 134; refine L.out.mono ?_; rintro e w5 ⟨rfl, hb5⟩)
          go_ret2
          refine ⟨B.out.trans (hb5.mono B.out.size), .inr ⟨?_, rfl⟩⟩
          cases h : okB cs with
          | false => rfl
          | true => have := (OK.out.1 h).2; omega
      · go_wp2_with (go_at_call 134; refine L.out.mono ?_; rintro e w5 ⟨rfl, hb5⟩)
        go_ret2
        refine ⟨B.out.trans (hb5.mono B.out.size), .inr ⟨?_, rfl⟩⟩
        cases h : okB cs with
        | false => rfl
        | true => have := (OK.out.1 h).1; omega

theorem rnormal_any (p : Option Addr) (cs : List C) (cap : Nat) (w : World) (hr : RowC w p cs) : Calls Tryz.prog 96 #[.slice p cs.length cap] w (NormPost cs w) := by
  by_cases h : cs.length ≤ 4096
  · exact rnormal_short p cs cap w hr h
  · exact rnormal_long p cs cap w (by omega)

set_option maxHeartbeats 1000000 in
theorem rcmay_any (p : Option Addr) (cs : List C) (cap : Nat) (w : World) (hr : RowC w p cs) : Calls Tryz.prog 46 #[.slice p cs.length cap] w (MayPost cs w) := by
  have R := Lib.hid hr; clear hr
  cases hok : okB cs with
  | false =>
    have HOK := Lib.hid hok; clear hok
    go_enter Tryz.func46, Tryz.ntmps46
    go_wp2_with (go_at_call 96; refine (rnormal_any _ _ _ _ R.out).mono ?_; rintro e w1 ⟨hb1, ⟨hyes, -⟩ | ⟨-, rfl⟩⟩; (rw [HOK.out] at hyes; cases hyes); have B1 := Lib.hid hb1; clear hb1)
    go_ret
    exact ⟨B1.out, .inr ⟨rfl, fun h => by have := h.1; rw [HOK.out] at this; cases this⟩⟩
  | true =>
    have HOK := Lib.hid hok; clear hok
    have hs := soft_all (okB_iff.1 HOK.out).2.1
    have hl : cs.length ≤ 4096 := (okB_iff.1 HOK.out).1
    have hn0 := normOf_length cs
    have NI : Hid (normOf cs = cs ↔ MayP cs) := Lib.hid ((normOf_iff hs).trans ⟨fun h => ⟨HOK.out, h⟩, fun h => h.2⟩)
    obtain ⟨N, hN⟩ : ∃ N, normOf cs = N := ⟨_, rfl⟩
    have HN := Lib.hid hN
    rw [hN] at hn0
    have NI2 : Hid (N = cs ↔ MayP cs) := Lib.hid (by rw [← hN]; exact NI.out)
    clear hs NI hN
    have CALL : Hid (Calls Tryz.prog 96 #[.slice p cs.length cap] w fun e w1 => ∃ p1 cap1, e = .returned (.tuple #[.slice p1 N.length cap1, .int .i64 0]) ∧ Hid (RowC w1 p1 N) ∧ Hid (Below w.heap.size w w1)) := Lib.hid (by
      refine (rnormal_any p cs cap w R.out).mono ?_
      rintro e w1 ⟨hb1, ⟨-, v1, rfl, ho⟩ | ⟨hno, -⟩⟩
      · rw [HN.out] at ho
        obtain ⟨p1, cap1, rfl⟩ := ho.form
        exact ⟨p1, cap1, rfl, Lib.hid ho.row, Lib.hid hb1⟩
      · rw [HOK.out] at hno; cases hno)
    by_cases hlen : N.length = cs.length
    · go_enter Tryz.func46, Tryz.ntmps46
      go_wp2_with (go_at_call 96; refine CALL.out.mono ?_; rintro e w1 ⟨p1, cap1, rfl, R1, B1⟩)
      have RC1 := Lib.hid (R.out.below B1.out)
      go_loopw [5] (fun i wr => ∃ j : Nat, j ≤ cs.length ∧ i = .int .i64 j ∧ Hid (∀ i, i < j → N[i]? = cs[i]?) ∧ Hid (Below w1.heap.size w1 wr)) (fun i _ => cs.length - (intOf i).toNat)
      case atStart => exact ⟨0, Nat.zero_le _, rfl, Lib.hid (fun i h => by omega), Lib.hid (Below.refl _ _)⟩
      case round =>
        obtain ⟨j, hj, rfl, S, B⟩ := hrel
        by_cases hlt : j < cs.length
        · have hc := List.getElem?_eq_getElem (show j < N.length by omega)
          have hd := List.getElem?_eq_getElem hlt
          generalize N[j] = c at hc
          generalize cs[j] = d at hd
          obtain ⟨b, o, rfl, hp⟩ := R1.out j c hc
          obtain ⟨b2, o2, rfl, hp2⟩ := RC1.out j d hd
          obtain ⟨c0, c1, c2⟩ := hp.below B.out
          obtain ⟨d0, d1, d2⟩ := hp2.below B.out
          obtain ⟨k, n, t⟩ := c
          obtain ⟨k', n', t'⟩ := d
          dsimp only at c0 c1 c2 d0 d1 d2
          have HC := Lib.hid hc; have HD := Lib.hid hd
          clear hc hd hp hp2
          have hg := fun op x y => guard39 op x y #[.int .i64 k, .int .i64 n, .string t] #[.int .i64 k', .int .i64 n', .string t']
          have hn := neq39 ⟨k, n, t⟩ ⟨k', n', t'⟩
          dsimp only at hn
          have hlt2 : j < N.length := by omega
          cases he : eqC ⟨k, n, t⟩ ⟨k', n', t'⟩ with
          | true =>
            rw [he] at hn
            have HE := Lib.hid he; clear he
            go_wp2_with fail
            go_quiet (fail)
            go_wp2_with fail
            go_roundw
            case rel => exact ⟨j + 1, by omega, by go_num, Lib.hid (fun i hi => by
                          by_cases hi2 : i < j
                          · exact S.out i hi2
                          · obtain rfl : i = j := by omega
                            rw [HC.out, HD.out, eqC_iff.1 HE.out]), Lib.hid (B.out.trans ((dr_below _ _).mono B.out.size))⟩
            case measure => simp [intOf]; omega
          | false =>
            rw [he] at hn
            have HE := Lib.hid he; clear he
            go_wp2_with fail
            go_quiet (fail)
            go_wp2_with fail
            go_ret
            refine ⟨B1.out.trans ((B.out.trans ((dr_below _ _).mono B.out.size)).mono B1.out.size), .inr ⟨rfl, fun h => ?_⟩⟩
            have h' := NI2.out.2 h
            have h1 := HC.out
            rw [h', HD.out] at h1
            have h2 := HE.out
            rw [eqC_iff.2 (Option.some.inj h1).symm] at h2
            cases h2
        · go_wp2_with fail
          go_ret
          refine ⟨B1.out.trans (B.out.mono B1.out.size), .inl ⟨rfl, NI2.out.1 (List.ext_getElem? fun i => ?_)⟩⟩
          by_cases hi : i < j
          · exact S.out i hi
          · rw [List.getElem?_eq_none (by omega), List.getElem?_eq_none (by omega)]
    · have hl' : ((N.length : Int) != (cs.length : Int)) = true := by simp; omega
      have HL := Lib.hid hlen; clear hlen
      go_enter Tryz.func46, Tryz.ntmps46
      go_wp2_with (go_at_call 96; refine CALL.out.mono ?_; rintro e w1 ⟨p1, cap1, rfl, R1, B1⟩)
      go_ret
      exact ⟨B1.out, .inr ⟨rfl, fun h => HL.out (by rw [NI2.out.2 h])⟩⟩

end Go.Proofs.YtjmfjlffcopnnaaGreatDoor.K

namespace Go.Proofs.YtjmfjlffcopnnaaGreatDoor.K
open Go.ChangeShapes Go.WideShapes Go.ChangeAt Go.RowKit Go.Deep

theorem cells39 : Tryz.prog.cellsOf 48 = 3 := by kernel_rfl
theorem cells3 : Tryz.prog.cellsOf 3 = 1 := by kernel_rfl
theorem cells9 : Tryz.prog.cellsOf 9 = 1 := by kernel_rfl

theorem plain_of_cell {w : World} {a : Addr} {v : Value} (h : w.cell? a = some v) : a.spot = none := by
  unfold World.cell? at h
  split at h
  · cases hs : a.spot with
    | none => rfl
    | some s => simp [hs] at h
  · cases h

theorem list_of {α : Type} [Inhabited α] {P : Nat → α → Prop} (n : Nat) (h : ∀ i, i < n → ∃ c, P i c) : ∃ cs : List α, cs.length = n ∧ ∀ (i : Nat) c, cs[i]? = some c → P i c := by
  induction n with
  | zero => exact ⟨[], rfl, fun i c hi => by simp at hi⟩
  | succ n ih =>
    obtain ⟨cs, hl, hc⟩ := ih fun i hi => h i (by omega)
    obtain ⟨c, hp⟩ := h n (by omega)
    refine ⟨cs ++ [c], by simp [hl], fun i d hi => ?_⟩
    by_cases hil : i < cs.length
    · rw [List.getElem?_append_left hil] at hi
      exact hc i d hi
    · rw [List.getElem?_append_right (by omega)] at hi
      have h0 : i - cs.length = 0 := by
        have := (List.getElem?_eq_some_iff.1 hi).1
        simp at this; omega
      rw [h0] at hi
      simp at hi
      subst hi
      obtain rfl : i = n := by omega
      exact hp

instance : Inhabited C := ⟨⟨0, 0, ⟨#[]⟩⟩⟩

section
variable {H : Type} {enc : TypeId × Value → H} {w : World} {base : Nat} {held : Bool}
set_option maxRecDepth 100000 in
theorem comps_open {fuel : Nat} {p : Option Addr} {n cap : Nat} {x : DataW H × List MemPlace} (h : DataW.trod enc Tryz.prog w base (fun _ => true) held fuel 22 [.slice p n cap] = some x) :
    ∃ cs : List C, cs.length = n ∧ n ≤ cap ∧ RowC w p cs ∧ ∀ c ∈ cs, c.t.size ≤ maxLen := by
  rcases open_slice Tryz.underlying22 h with ⟨h0, _⟩ | ⟨a, len, cap', m, k, D, Pl, hcs, _, hl, _, hmm, _, hi⟩
  · cases h0
    exact ⟨[], rfl, Nat.le_refl _, fun i c hi => by simp at hi, fun c hc => by simp at hc⟩
  · cases hcs
    have hmm : m = cap := by rw [hmm]; simp
    subst hmm
    obtain ⟨cs, hcl, hat⟩ := list_of (P := fun i (c : C) => (∃ b o, a = ⟨b, o, none⟩ ∧ PieceAt w b (o + i * 3) c) ∧ c.t.size ≤ maxLen) n (fun i hil => by
      obtain ⟨b, o, sp⟩ := a
      obtain ⟨cs', hc, ht⟩ := hi i (by omega)
      rw [cells39] at hc
      obtain ⟨_, hcl, hat⟩ := World.cells?_some hc
      obtain ⟨ys, n', _, _, _, hyl, hf⟩ := DataW.trod_struct Tryz.underlying48 ht
      obtain rfl : sp = none := by
        obtain ⟨cs0, hc0, _⟩ := hi 0 (by omega)
        rw [cells39] at hc0
        obtain ⟨_, hcl0, hat0⟩ := World.cells?_some hc0
        have h0 := hat0 0 (by omega)
        rw [List.getElem?_eq_getElem (by omega)] at h0
        rw [Nat.zero_mul] at h0
        exact plain_of_cell h0
      match cs', hcl with
      | [c0, c1, c2], _ =>
        have e0 := hat 0 (by omega)
        have e1 := hat 1 (by omega)
        have e2 := hat 2 (by omega)
        simp only [add_plain] at e0 e1 e2
        have hyl3 : ys.length = 3 := hyl
        have hy : ∀ j, j < 3 → ∃ y, ys[j]? = some y := fun j hj => ⟨_, List.getElem?_eq_getElem (by omega : j < ys.length)⟩
        obtain ⟨y0, k0⟩ := hy 0 (by omega)
        obtain ⟨y1, k1⟩ := hy 1 (by omega)
        obtain ⟨y2, k2⟩ := hy 2 (by omega)
        have g0 := (hf 0 _ rfl).trans k0
        have g1 := (hf 1 _ rfl).trans k1
        have g2 := (hf 2 _ rfl).trans k2
        obtain ⟨kd, h0, _⟩ := DataW.trod_int Tryz.underlying3 g0
        obtain ⟨nn, h1, _⟩ := DataW.trod_int Tryz.underlying3 g1
        obtain ⟨s, h2, _, hs⟩ := DataW.trod_string Tryz.underlying9 g2
        simp [cells3, cells9] at h0 h1 h2
        subst h0; subst h1; subst h2
        exact ⟨⟨kd, nn, s⟩, ⟨b, o, rfl, by simpa using e0, by simpa using e1, by simpa using e2⟩, hs⟩)
    refine ⟨cs, hcl, hl, fun i c hi => ?_, fun c hc => ?_⟩
    · obtain ⟨⟨b, o, rfl, hp⟩, _⟩ := hat i c hi
      exact ⟨b, o, rfl, hp⟩
    · obtain ⟨i, hi⟩ := List.mem_iff_getElem?.1 hc
      exact (hat i c hi).2

end

end Go.Proofs.YtjmfjlffcopnnaaGreatDoor.K
