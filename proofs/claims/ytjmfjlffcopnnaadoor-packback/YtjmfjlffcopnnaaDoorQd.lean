/-
  The program's taker: refuse and digits: the walks. Conditions: as each theorem's premises say.
-/
import Derived.Test.YtjmfjlffcopnnaaDoorM20
import Derived.Test.YtjmfjlffcopnnaaDoorQm
import Derived.Deep.CutBlock
import Derived.Deep.DeepCutAuto
namespace Go.Proofs.YtjmfjlffcopnnaaDoor
open Go.RowKit

/-- The program's taker in its box. -/
structure TkP (w : World) (tb : Nat) (z : ByteArray) (b : Bool) : Prop where
  obj : w.heap[tb]? = some (.cells #[.string z, .bool b] 54 (0, 0))
  le : z.size ≤ 1000000
  emp : b = true → z = ⟨#[]⟩
theorem TkP.kept {w w' : World} {tb : Nat} {z : ByteArray} {b : Bool} {row : Option Nat} (h : TkP w tb z b) (hg : w.grownBy w' row) (hne : ∀ g, row = some g → g ≠ tb) : TkP w' tb z b :=
  ⟨(hg.block tb (Array.getElem?_eq_some_iff.1 h.obj).1 (fun e => hne tb e.symm rfl)).trans h.obj, h.le, h.emp⟩
theorem TkP.drewN {w : World} {tb : Nat} {z : ByteArray} {b : Bool} (h : TkP w tb z b) (n : Nat) : TkP (w.drewN n) tb z b := ⟨h.obj, h.le, h.emp⟩
theorem grown_drewN {w w1 : World} {tb : Nat} (h : w.grownBy w1 (some tb)) (n : Nat) : w.grownBy (w1.drewN n) (some tb) := grown_trans h (grown_of_below (dr_below _ n) (some tb)) (fun _ hg => .inl hg)
def UniT (tb : Nat) (w : World) (e : Ending) (w' : World) : Prop := e = .returned (.tuple #[]) ∧ TkP w' tb ⟨#[]⟩ true ∧ w.grownBy w' (some tb)
theorem bytes_at {z : ByteArray} {m : Nat} (h : m < z.size) : (bytesOf z)[m]? = some z[m] := by
  unfold bytesOf
  rw [List.getElem?_eq_getElem (by simpa using h)]
  rfl
theorem bytes_size (z : ByteArray) : (bytesOf z).length = z.size := by simp [bytesOf]
theorem bytes_ext (z : ByteArray) (a : Nat) : bytesOf (z.extract a z.size) = (bytesOf z).drop a := by
  unfold bytesOf
  rw [ByteArray.data_extract, Array.toList_extract, List.extract_eq_take_drop, List.take_of_length_le]
  rw [List.length_drop]
  simp


set_option maxRecDepth 100000 in
theorem qrefuse_any (z : ByteArray) (tb : Nat) (b : Bool) (w : World) (h : TkP w tb z b) : Calls Tryd.prog 60 #[.pointer (some ⟨tb, 0, none⟩)] w (UniT tb w) := by
  have T := Lib.hid h
  have c0 : w.cell? ⟨tb, 0, none⟩ = some (.string z) := (obj_cells h.obj).1 0 _ rfl
  have c1 : w.cell? ⟨tb, 1, none⟩ = some (.bool b) := (obj_cells h.obj).1 1 _ rfl
  have f0 := (obj_cells h.obj).2.1 0
  have f1 := (obj_cells h.obj).2.1 1
  clear h
  go_enter Tryd.func60, Tryd.ntmps60
  go_wp2_with fail
  refine bodyPost_ret (results_none rfl _ _ _) rfl ?_
  refine ⟨rfl, ⟨?_, by decide, fun _ => rfl⟩, ?_⟩
  · rw [heap_setCell_at (heap_setCell_at T.out.obj _)]
    rfl
  · exact grown_set (grown_set (grown_refl _ _) _) _

def DigT (e : UInt8) (tb : Nat) (z : ByteArray) (b : Bool) (w : World) (en : Ending) (w' : World) : Prop := ∃ (n : Nat) (z' : ByteArray) (b' : Bool), en = .returned (.int .i64 n) ∧ n ≤ 16777216 ∧ Took NuP (digC e) (bytesOf z) b n (bytesOf z') b' ∧ TkP w' tb z' b' ∧ w.grownBy w' (some tb)

set_option maxRecDepth 100000 in
set_option maxHeartbeats 4000000 in
theorem qdigits_any (e : UInt8) (he : isDg e = false) (z : ByteArray) (tb : Nat) (b : Bool) (w : World) (h : TkP w tb z b) : Calls Tryd.prog 61 #[.pointer (some ⟨tb, 0, none⟩), .int .u8 e.toNat] w (DigT e tb z b w) := by
  have T0 := Lib.hid h
  have HE := Lib.hid he
  have hz := h.le
  clear h he
  go_enter Tryd.func61, Tryd.ntmps61
  go_upto_block 0 with fail
  go_cut [5, 6] from 8 to 49 (fun v5 v6 wx => ∃ (X m : Nat), v5 = .int .i64 X ∧ v6 = .int .i64 m ∧ X < 200000000 ∧ m ≤ z.size ∧ Hid (valD 0 ((bytesOf z).take m) = X) ∧ Hid (∀ j c, j < m → (bytesOf z)[j]? = some c → isDg c = true) ∧ Hid (16777216 < X ∨ z.size = m ∨ ∃ c, (bytesOf z)[m]? = some c ∧ isDg c = false) ∧ Hid (TkP wx tb z b) ∧ Hid (w.grownBy wx (some tb)))
  case first =>
    go_wp2_with fail
    go_loopw [5, 6] (fun v5 v6 wr => ∃ (X m : Nat), v5 = .int .i64 X ∧ v6 = .int .i64 m ∧ X < 200000000 ∧ m ≤ z.size ∧ Hid (valD 0 ((bytesOf z).take m) = X) ∧ Hid (∀ j c, j < m → (bytesOf z)[j]? = some c → isDg c = true) ∧ Hid (TkP wr tb z b) ∧ Hid (w.grownBy wr (some tb))) (fun _ v6 _ => z.size - (intOf v6).toNat)
    case atStart => exact ⟨0, 0, rfl, rfl, by decide, by omega, Lib.hid rfl, Lib.hid (fun j c hj => by omega), T0, Lib.hid (grown_refl _ _)⟩
    case round =>
      clear T0
      obtain ⟨X, m, rfl, rfl, hX, hm, HX, HD, T, G⟩ := hrel
      have c0 : wr.cell? ⟨tb, 0, none⟩ = some (.string z) := (obj_cells T.out.obj).1 0 _ rfl
      by_cases q0 : X ≤ 16777216
      case neg =>
        have k0 : decide ((X : Int) ≤ 16777216) = false := decide_eq_false (by omega)
        go_wp2_with fail
        go_meet
        exact ⟨X, m, rfl, rfl, hX, hm, HX, HD, Lib.hid (.inl (by omega)), T, G⟩
      have k0 : decide ((X : Int) ≤ 16777216) = true := decide_eq_true (by omega)
      by_cases q1 : m < z.size
      case neg =>
        have k1 : decide ((m : Int) < (z.size : Int)) = false := decide_eq_false (by omega)
        go_wp2_with fail
        go_meet
        exact ⟨X, m, rfl, rfl, hX, hm, HX, HD, Lib.hid (.inr (.inl (by omega))), T, G⟩
      have k1 : decide ((m : Int) < (z.size : Int)) = true := decide_eq_true (by omega)
      obtain ⟨c, hc⟩ : ∃ c, z[m] = c := ⟨_, rfl⟩
      have HF : Hid ((bytesOf z)[m]? = some c) := Lib.hid (by rw [bytes_at q1, hc])
      have hc8 := c.toNat_lt
      have m0 : (0 : Int) ≤ (m : Int) := by omega
      have m1 : (m : Int) < (z.size : Int) := by omega
      by_cases q2 : 48 ≤ c.toNat
      case neg =>
        have k2 : decide ((48 : Int) ≤ (c.toNat : Int)) = false := decide_eq_false (by omega)
        go_wp2_with fail
        go_meet
        exact ⟨X, m, rfl, rfl, hX, hm, HX, HD, Lib.hid (.inr (.inr ⟨c, HF.out, by unfold isDg; simp; omega⟩)), T, G⟩
      have k2 : decide ((48 : Int) ≤ (c.toNat : Int)) = true := decide_eq_true (by omega)
      by_cases q3 : c.toNat ≤ 57
      case neg =>
        have k3 : decide ((c.toNat : Int) ≤ 57) = false := decide_eq_false (by omega)
        go_wp2_with fail
        go_meet
        exact ⟨X, m, rfl, rfl, hX, hm, HX, HD, Lib.hid (.inr (.inr ⟨c, HF.out, by unfold isDg; simp; omega⟩)), T, G⟩
      have k3 : decide ((c.toNat : Int) ≤ 57) = true := decide_eq_true (by omega)
      have v2 : IntKind.i64.wrap (10 * (X : Int)) = 10 * (X : Int) := IntWalk.i64_in _ (by omega)
      have v3 : IntKind.i64.wrap (10 * (X : Int) + ((c.toNat : Int) - 48)) = 10 * (X : Int) + ((c.toNat : Int) - 48) := IntWalk.i64_in _ (by omega)
      have v4 : IntKind.u8.wrap ((c.toNat : Int) - 48) = (c.toNat : Int) - 48 := IntWalk.u8_in _ (by omega)
      have v5 : IntKind.i64.wrap ((c.toNat : Int) - 48) = (c.toNat : Int) - 48 := IntWalk.i64_in _ (by omega)
      have VS := Lib.hid (qvalD_snoc HF.out)
      have HD2 : Hid (∀ j c, j < m + 1 → (bytesOf z)[j]? = some c → isDg c = true) := Lib.hid (fun j c' hj hc' => by
        by_cases e1 : j = m
        · rw [e1, HF.out] at hc'
          cases hc'
          unfold isDg
          simp
          omega
        · exact HD.out j c' (by omega) hc')
      go_wp2_with fail
      go_roundw
      case rel =>
        refine ⟨10 * X + (c.toNat - 48), m + 1, by go_num, by go_num, by omega, by omega, Lib.hid (by rw [VS.out, HX.out]), HD2, T, G⟩
      case measure => simp [intOf]; omega
  case rest =>
    clear T0
    obtain ⟨X, m, rfl, rfl, hX, hm, HX, HD, EX, T, G⟩ := hcut
    have c0 : wc.cell? ⟨tb, 0, none⟩ = some (.string z) := (obj_cells T.out.obj).1 0 _ rfl
    go_upto_region 5 with fail
    go_cut [7] (fun v wx => ∃ pl : Bool, v = .bool pl ∧ Hid (pl = true ↔ (m = 1 ∨ (1 < m ∧ (bytesOf z)[0]? ≠ some 48))) ∧ Hid (TkP wx tb z b) ∧ Hid (w.grownBy wx (some tb)))
    case first =>
      by_cases p1 : m = 1
      · have k1 : ((m : Int) == 1) = true := by rw [beq_iff_eq]; omega
        go_wp2_with fail
        go_meet
        exact ⟨_, rfl, Lib.hid (by simp [p1]), T, G⟩
      have k1 : ((m : Int) == 1) = false := by rw [beq_eq_false_iff_ne]; omega
      by_cases p2 : 1 < m
      case neg =>
        have k2 : decide ((1 : Int) < (m : Int)) = false := decide_eq_false (by omega)
        go_wp2_with fail
        go_meet
        exact ⟨_, rfl, Lib.hid (by simp [p1, p2]), T, G⟩
      have k2 : decide ((1 : Int) < (m : Int)) = true := decide_eq_true (by omega)
      have hz0 : 0 < z.size := by omega
      have hz0i : (0 : Int) < (z.size : Int) := by omega
      obtain ⟨c, hc⟩ : ∃ c, z[0] = c := ⟨_, rfl⟩
      have HF : Hid ((bytesOf z)[0]? = some c) := Lib.hid (by rw [bytes_at hz0, hc])
      by_cases p3 : c.toNat = 48
      · have k3 : ((c.toNat : Int) != 48) = false := by rw [bne_eq_false_iff_eq]; omega
        go_wp2_with fail
        go_meet
        exact ⟨_, rfl, Lib.hid (by rw [HF.out]; have : c = 48 := UInt8.toNat_inj.1 p3; simp [p1, this]), T, G⟩
      · have k3 : ((c.toNat : Int) != 48) = true := by rw [bne_iff_ne]; omega
        go_wp2_with fail
        go_meet
        exact ⟨_, rfl, Lib.hid (by rw [HF.out]; have : c ≠ 48 := fun e => p3 (by rw [e]; rfl); simp [p2, this]), T, G⟩
    case rest =>
      clear c0 T G
      obtain ⟨pl, rfl, PL, T, G⟩ := hcut
      have c0 : wc.cell? ⟨tb, 0, none⟩ = some (.string z) := (obj_cells T.out.obj).1 0 _ rfl
      go_upto_region 6 with fail
      go_cut [88] (fun v wx => ∃ bd : Bool, v = .bool bd ∧ Hid (bd = false ↔ ((m = 1 ∨ (1 < m ∧ (bytesOf z)[0]? ≠ some 48)) ∧ X ≤ 16777216 ∧ (bytesOf z)[m]? = some e)) ∧ Hid (TkP wx tb z b) ∧ Hid (w.grownBy wx (some tb)))
      case first =>
        cases pl with
        | false =>
          go_wp2_with fail
          go_meet
          exact ⟨_, rfl, Lib.hid ⟨fun e => (by cases e), fun e => (by have := PL.out.2 e.1; cases this)⟩, T, G⟩
        | true =>
          by_cases p1 : X ≤ 16777216
          case neg =>
            have k1 : decide ((16777216 : Int) < (X : Int)) = true := decide_eq_true (by omega)
            go_wp2_with fail
            go_meet
            exact ⟨_, rfl, Lib.hid ⟨fun e => (by cases e), fun e => absurd e.2.1 p1⟩, T, G⟩
          have k1 : decide ((16777216 : Int) < (X : Int)) = false := decide_eq_false (by omega)
          by_cases p2 : m = z.size
          · have k2 : ((m : Int) == (z.size : Int)) = true := by rw [beq_iff_eq]; omega
            have NN : Hid ((bytesOf z)[m]? = none) := Lib.hid (by rw [List.getElem?_eq_none_iff, bytes_size]; omega)
            clear p2
            go_wp2_with fail
            go_meet
            exact ⟨_, rfl, Lib.hid ⟨fun e => (by cases e), fun e => (by have := e.2.2; rw [NN.out] at this; cases this)⟩, T, G⟩
          have k2 : ((m : Int) == (z.size : Int)) = false := by rw [beq_eq_false_iff_ne]; omega
          have m0 : (0 : Int) ≤ (m : Int) := by omega
          have m1 : (m : Int) < (z.size : Int) := by omega
          have q1 : m < z.size := by omega
          obtain ⟨c, hc⟩ : ∃ c, z[m] = c := ⟨_, rfl⟩
          have HF : Hid ((bytesOf z)[m]? = some c) := Lib.hid (by rw [bytes_at q1, hc])
          by_cases p3 : c = e
          · have k3 : ((c.toNat : Int) != (e.toNat : Int)) = false := by rw [p3]; simp
            have P3 := Lib.hid p3
            clear p3
            go_wp2_with fail
            go_meet
            exact ⟨_, rfl, Lib.hid ⟨fun _ => ⟨PL.out.1 trivial, p1, by rw [HF.out, P3.out]⟩, fun _ => rfl⟩, T, G⟩
          · have k3 : ((c.toNat : Int) != (e.toNat : Int)) = true := by rw [bne_iff_ne]; intro h; exact p3 (UInt8.toNat_inj.1 (by omega))
            go_wp2_with fail
            go_meet
            exact ⟨_, rfl, Lib.hid ⟨fun e => (by cases e), fun e => (by have := e.2.2; rw [HF.out] at this; exact absurd (Option.some.inj this) p3)⟩, T, G⟩
      case rest =>
        clear c0 T G
        obtain ⟨bd, rfl, BD, T, G⟩ := hcut
        cases bd with
        | true =>
          go_wp2_with (go_at_call 60; refine (qrefuse_any z tb b wc T.out).mono ?_; rintro e w2 ⟨rfl, hT, hg⟩; have T2 := Lib.hid hT; have G2 := Lib.hid (grown_trans G.out hg (fun _ h => .inl h)); clear hT hg)
          go_ret
          refine ⟨0, ⟨#[]⟩, true, rfl, by decide, took_dig_no HE.out HD.out ?_ ?_, T2.out, G2.out⟩
          · rw [HX.out, bytes_size]; exact EX.out
          · rw [HX.out]; intro h; have := BD.out.2 h; cases this
        | false =>
          have GD := Lib.hid (BD.out.1 rfl)
          have c0 : wc.cell? ⟨tb, 0, none⟩ = some (.string z) := (obj_cells T.out.obj).1 0 _ rfl
          have f0 := (obj_cells T.out.obj).2.1 0
          have q1 : m < z.size := by
            have := (List.getElem?_eq_some_iff.1 GD.out.2.2).1
            rwa [bytes_size] at this
          have NB : Hid (b = false) := Lib.hid (by
            cases b with
            | false => rfl
            | true => rw [T.out.emp rfl] at q1; exact absurd q1 (Nat.not_lt_zero _))
          obtain ⟨k, hk⟩ : ∃ k, m + 1 = k := ⟨_, rfl⟩
          have v1 : IntKind.i64.wrap ((m : Int) + 1) = (k : Int) := by rw [IntWalk.i64_in _ (by omega)]; omega
          have k0 : (0 : Int) ≤ (k : Int) := by omega
          have k1 : (k : Int) ≤ (z.size : Int) := by omega
          have KK := Lib.hid hk
          clear hk
          go_wp2_with fail
          go_ret
          refine ⟨X, z.extract k z.size, b, rfl, GD.out.2.1, ?_, ⟨?_, ?_, ?_⟩, grown_set G.out _⟩
          · have := took_dig_yes (b := b) (fun e => by rw [NB.out] at e; cases e) HD.out GD.out.1 (by rw [HX.out]; exact GD.out.2.1) GD.out.2.2
            rw [HX.out, KK.out, ← bytes_ext] at this
            exact this
          · rw [heap_setCell_at T.out.obj]
            rfl
          · rw [ByteArray.size_extract]
            omega
          · intro e
            rw [NB.out] at e
            cases e

end Go.Proofs.YtjmfjlffcopnnaaDoor
