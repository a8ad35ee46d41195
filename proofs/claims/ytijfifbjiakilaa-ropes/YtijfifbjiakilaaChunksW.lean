/-
  The walk of RopeChunks: it answers true. Conditions: the string is within the form's reach, the acts lie in memory.
-/
import Derived.Test.YtijfifbjiakilaaW10
import Derived.StillTailTactics
namespace Go.Proofs.Ytijfifbjiakilaa
open Go.RowKit

/-- The acts that are handed in, as they lie in memory. -/
def ActsAt (w : World) (p : Option Addr) (n : Nat) : Prop :=
  ∀ i, i < n → ∃ (b o : Nat) (kd at' k : Int) (s : ByteArray), p = some ⟨b, o, none⟩ ∧ w.cell? ⟨b, o + i * 4, none⟩ = some (.int .i64 kd) ∧ w.cell? ⟨b, o + i * 4 + 1, none⟩ = some (.int .i64 at') ∧ w.cell? ⟨b, o + i * 4 + 2, none⟩ = some (.int .i64 k) ∧ w.cell? ⟨b, o + i * 4 + 3, none⟩ = some (.string s)

/-- How many bytes the first m chunks have. -/
def lenTo (ls : List (List UInt8)) (m : Nat) : Nat := (ls.take m).flatten.length
theorem lenTo_step {ls : List (List UInt8)} {m : Nat} {l : List UInt8} (hm : m < ls.length) (hl : ls[m] = l) : lenTo ls (m + 1) = lenTo ls m + l.length := take_step hm hl
theorem lenTo_le (ls : List (List UInt8)) (m : Nat) : lenTo ls m ≤ ls.flatten.length := by
  unfold lenTo
  have h : ls.flatten = (ls.take m).flatten ++ (ls.drop m).flatten := by rw [← List.flatten_append, List.take_append_drop]
  rw [h, List.length_append]
  omega
theorem lenTo_all (ls : List (List UInt8)) : lenTo ls ls.length = ls.flatten.length := by unfold lenTo; rw [List.take_of_length_le (Nat.le_refl _)]

theorem lenCells_get {ls : List (List UInt8)} {m : Nat} (hm : m < ls.length) : (lenCells ls)[m]? = some (.int .i64 (ls[m].length : Int)) := by simp [lenCells, hm]

set_option maxRecDepth 100000 in
set_option maxHeartbeats 1000000 in
theorem chunks_long (s : ByteArray) (v : Value) (w : World) (hs : s.size ≤ maxLen) (hlong : 4096 < s.size) :
    Calls Try.prog 4 #[.string s, v] w fun e w' => e = .returned (.bool true) ∧ Below w.heap.size w w' := by
  go_enter Try.func4, Try.ntmps4
  go_wp2_with (first | (go_at_call 9; refine (awake_true _).mono ?_; rintro e w1 ⟨rfl, hb1⟩) | (go_at_call 7; refine (new_bad _ _ hlong hs).mono ?_; rintro e w' ⟨rfl, rfl⟩) | (go_at_call 8; refine (num_any _ _).mono ?_; rintro e w' ⟨rfl, rfl⟩))
  go_ret
  exact ⟨rfl, hb1⟩

set_option maxRecDepth 100000 in
set_option maxHeartbeats 1000000 in
theorem chunks_short (s : ByteArray) (p : Option Addr) (n cap : Nat) (w : World) (hs : s.size ≤ 4096) (ha : ActsAt w p n) :
    Calls Try.prog 4 #[.string s, .slice p n cap] w fun e w' => e = .returned (.bool true) ∧ Below w.heap.size w w' := by
  have A := Lib.hid ha; clear ha
  go_enter Try.func4, Try.ntmps4
  go_wp2_with (first | (go_at_call 9; refine (awake_true _).mono ?_; rintro e w1 ⟨rfl, hb1⟩) | (go_at_call 7; refine (new_ok _ _ (by omega)).mono ?_; rintro e w2 ⟨r, rfl, hr, hrope, hb2⟩; have R1 := Lib.hid hrope; clear hrope) | (go_at_call 8; refine (num_any _ _).mono ?_; rintro e w' ⟨rfl, rfl⟩))
  have B2 := Lib.hid (hb1.trans (hb2.mono hb1.size))
  have hr' : w.heap.size ≤ r := Nat.le_trans hb1.size hr
  clear hb1 hb2 hr
  go_loopw [7] (fun i wr => ∃ (k : Nat) (t : List UInt8), k ≤ 40 ∧ k ≤ n + 1 ∧ i = .int .i64 k ∧ Hid (Rope wr r t) ∧ Hid (Below w.heap.size w wr)) (fun i _ => 40 - (intOf i).toNat)
  case atStart => exact ⟨0, _, Nat.zero_le _, Nat.zero_le _, rfl, R1, B2⟩
  case round =>
    clear R1 B2
    obtain ⟨k, t, hk, hkn, rfl, R, B⟩ := hrel
    by_cases hgo : k ≤ n ∧ k < 40
    · obtain ⟨hkn', hk40⟩ := hgo
      go_wp2_with (first | (go_at_call 19; refine (chunks_any r t _ R.out).mono ?_; rintro e w3 ⟨cv, ls, rfl, hsm, hti, hfl, hown, hb3⟩; obtain ⟨cp, cc, hcv⟩ := owns_form hown; subst hcv; have SM := Lib.hid hsm; have TI := Lib.hid hti; have FL := Lib.hid hfl; have OWN := Lib.hid hown; have B3 := Lib.hid hb3; clear hsm hti hfl hown hb3))
      have hll : ls.length ≤ 4096 := by have h1 := SM.out.length; rw [FL.out] at h1; have := R.out.1; omega
      go_loopw [9, 10] (fun u j wq => ∃ m : Nat, m ≤ ls.length ∧ j = .int .i64 m ∧ u = .int .i64 (lenTo ls m : Nat) ∧ Hid (wq.ownsRow wr.heap.size 3 1 (.slice cp ls.length cc) ls.length (lenCells ls)) ∧ Hid (Below wr.heap.size wr wq)) (fun _ j _ => ls.length - (intOf j).toNat)
      case atStart => exact ⟨0, Nat.zero_le _, rfl, rfl, OWN, B3⟩
      case round =>
        clear OWN B3
        obtain ⟨m, hm, rfl, rfl, OWN, B3⟩ := hrel
        by_cases hlt : m < ls.length
        · obtain ⟨g, hp⟩ : ∃ g, cp = some ⟨g, 0, none⟩ := by
            rcases OWN.out.2 with ⟨_, h⟩ | ⟨g, _, _, h, _⟩
            · omega
            · cases h; exact ⟨_, rfl⟩
          subst hp
          have hcell : ∀ (q : Nat) (hq : q < ls.length), wr.cell? ⟨g, q, none⟩ = some (.int .i64 (ls[q].length : Int)) := fun q hq => by
            have := OWN.out.cells (g := g) rfl q _ (lenCells_get hq)
            rwa [add_plain, Nat.zero_add] at this
          have hc := hcell m hlt
          have hs16 := SM.out ls[m] (List.getElem_mem hlt)
          have hst := lenTo_step hlt rfl
          have hle := lenTo_le ls (m + 1)
          have hz4 : ls.flatten.length ≤ 4096 := by rw [FL.out]; exact R.out.1
          obtain ⟨z, hz⟩ : ∃ z : Int, z = (ls[m].length : Int) := ⟨_, rfl⟩
          rw [← hz] at hc
          have hz1 : 1 ≤ z := by omega
          have hz16 : z ≤ 16 := by omega
          have ST : Hid ((lenTo ls m : Int) + z = (lenTo ls (m + 1) : Nat)) := Lib.hid (by omega)
          have hlm : lenTo ls m ≤ 4096 := by omega
          have d1 : decide (z < 1) = false := decide_eq_false (by omega)
          have d2 : decide (16 < z) = false := decide_eq_false (by omega)
          rcases Nat.eq_zero_or_pos m with hm0 | hm0
          · subst hm0
            clear hst hle hz4 hz hs16 hcell
            go_wp2
            go_quiet (fail)
            go_wp2
            go_roundw
            case rel => exact ⟨1, hlt, rfl, congrArg (Value.int .i64) ST.out, OWN, Lib.hid (B3.out.trans ⟨rfl, rfl, rfl, Nat.le_refl _, fun _ _ => rfl⟩)⟩
            case measure => simp [intOf]; omega
          · obtain ⟨q, rfl⟩ : ∃ q, m = q + 1 := ⟨m - 1, by omega⟩
            have hc0 := hcell q (by omega)
            have hti := TI.out q ls[q] ls[q + 1] (List.getElem?_eq_getElem (by omega)) (List.getElem?_eq_getElem hlt)
            obtain ⟨z0, hz0⟩ : ∃ z : Int, z = (ls[q].length : Int) := ⟨_, rfl⟩
            rw [← hz0] at hc0
            have hs0 := SM.out ls[q] (List.getElem_mem (by omega))
            have d3 : decide (z + z0 ≤ 16) = false := decide_eq_false (by omega)
            have d4 : IntKind.i64.wrap (z + z0) = z + z0 := IntWalk.i64_in _ (by omega)
            clear hst hle hz4 hz hs16 hcell hti hz0 hs0
            go_wp2
            go_quiet (fail)
            go_wp2
            go_roundw
            case rel => exact ⟨q + 1 + 1, hlt, by go_num, congrArg (Value.int .i64) ST.out, OWN, Lib.hid (B3.out.trans ⟨rfl, rfl, rfl, Nat.le_refl _, fun _ _ => rfl⟩)⟩
            case measure => simp [intOf]; omega
        · have hmm : m = ls.length := by omega
          have hsum : (lenTo ls m : Int) = (t.length : Int) := by rw [hmm, lenTo_all, FL.out]
          have R3 := Lib.hid (R.out.kept B3.out)
          have SUM := Lib.hid hsum
          clear hmm hsum
          by_cases hkl : k < n
          · obtain ⟨b, o, kd, at', q, str, hp, c0, c1, c2, c3⟩ := A.out k hkl
            subst hp
            have C0 := Lib.hid c0; have C1 := Lib.hid c1; have C2 := Lib.hid c2; have C3 := Lib.hid c3
            clear c0 c1 c2 c3
            by_cases hkd : (bits BinOp.and IntKind.i64 kd 1 == 0) = true
            · go_wp2_with (first | (go_at_call 17; refine (len_rope r t (lenTo ls m : Int) _ R3.out SUM.out).mono ?_; rintro e w' ⟨rfl, rfl⟩) | (go_at_call 20; refine (spoil_any _ _ _ _ _ OWN.out (lenCells_ints ls) hll).mono ?_; rintro e w4 ⟨rfl, hg⟩; have BB := B3.out.grown hg B3.out.size (fun q hq => (OWN.out.lt q hq).1); have R4 := Lib.hid (R.out.kept BB); have B4 := B.out.trans (BB.mono B.out.size); have d0 := cell_later B4 C0.out; have d1 := cell_later B4 C1.out; have d3 := cell_later B4 C3.out; have BB4 := Lib.hid B4; clear BB B4 hg))
              go_still_tail 11, (by kernel_rfl)
              have R5 : Hid (Rope w4.drew r t) := R4
              have B5 : Hid (Below w.heap.size w w4.drew) := Lib.hid BB4.out.drew
              change wpList _ _ _ _ _ w4.drew
              generalize w4.drew = w5 at R5 B5 ⊢
              clear R4 BB4 R3 OWN
              go_wp2_with (go_at_call 10; refine (insert_every r t _ _ _ R5.out).mono ?_; rintro e w6 ⟨c, t', rfl, hrope, hg⟩; have R6 := Lib.hid hrope; have B6 := Lib.hid (below_row B5.out hg B5.out.size hr'); clear hrope hg)
              go_roundw
              case rel => exact ⟨k + 1, t', by omega, by omega, by go_num, R6, B6⟩
              case measure => simp [intOf]; omega
            · have hkd' : (bits BinOp.and IntKind.i64 kd 1 == 0) = false := by simpa using hkd
              clear hkd
              go_wp2_with (first | (go_at_call 17; refine (len_rope r t (lenTo ls m : Int) _ R3.out SUM.out).mono ?_; rintro e w' ⟨rfl, rfl⟩) | (go_at_call 20; refine (spoil_any _ _ _ _ _ OWN.out (lenCells_ints ls) hll).mono ?_; rintro e w4 ⟨rfl, hg⟩; have BB := B3.out.grown hg B3.out.size (fun q hq => (OWN.out.lt q hq).1); have R4 := Lib.hid (R.out.kept BB); have B4 := B.out.trans (BB.mono B.out.size); have d0 := cell_later B4 C0.out; have d1 := cell_later B4 C1.out; have d2 := cell_later B4 C2.out; have BB4 := Lib.hid B4; clear BB B4 hg))
              go_still_tail 11, (by kernel_rfl)
              have R5 : Hid (Rope w4.drew r t) := R4
              have B5 : Hid (Below w.heap.size w w4.drew) := Lib.hid BB4.out.drew
              change wpList _ _ _ _ _ w4.drew
              generalize w4.drew = w5 at R5 B5 ⊢
              clear R4 BB4 R3 OWN
              go_wp2_with (go_at_call 11; refine (delete_every r t _ _ _ R5.out).mono ?_; rintro e w6 ⟨c, t', rfl, hrope, hg⟩; have R6 := Lib.hid hrope; have B6 := Lib.hid (below_row B5.out hg B5.out.size hr'); clear hrope hg)
              go_roundw
              case rel => exact ⟨k + 1, t', by omega, by omega, by go_num, R6, B6⟩
              case measure => simp [intOf]; omega
          · go_wp2_with (first | (go_at_call 17; refine (len_rope r t (lenTo ls m : Int) _ R3.out SUM.out).mono ?_; rintro e w' ⟨rfl, rfl⟩) | (go_at_call 20; refine (spoil_any _ _ _ _ _ OWN.out (lenCells_ints ls) hll).mono ?_; rintro e w4 ⟨rfl, hg⟩; have BB := B3.out.grown hg B3.out.size (fun q hq => (OWN.out.lt q hq).1); have R4 := Lib.hid (R.out.kept BB); have B4 := Lib.hid (B.out.trans (BB.mono B.out.size)); clear BB hg))
            go_roundw
            case rel => exact ⟨k + 1, t, by omega, by omega, by go_num, R4, B4⟩
            case measure => simp [intOf]; omega
    · go_wp2
      all_goals (go_ret; exact ⟨rfl, B.out⟩)

end Go.Proofs.Ytijfifbjiakilaa
