/-
  Lx4, Mem, Lx5, in one text. Conditions: as each theorem's premises say.
-/
import Derived.Test.YtjmfjlffcopnnaaGreatDoorPF04
import Derived.Lib.Bytes
import Derived.Deep.AppendLies
import Derived.Laws.OwnMore
import Derived.OwnWalk
namespace Go.Proofs.YtjmfjlffcopnnaaGreatDoor
open Go.RowKit

theorem dr_below (w : World) (m : Nat) : Below w.heap.size w (w.drewN m) := ⟨rfl, rfl, rfl, Nat.le_refl _, fun _ _ => rfl⟩
theorem results_cell1 {fn : Func} {p : Tmp} {ty : TypeId} (h : fn.results = #[.cell p ty]) (tmps : Array Value) (P : Program) (w : World) :
    (results fn tmps).run P w = ((asAddr (tmps.getD p undef)).run P w).andThen fun a w₁ => (loadVar ty a).run P w₁ := by
  simp only [results, h]
  simp [Sem.run_bind, Result.andThen]

/-- A token comes back. -/
def TokPost (k a b : Nat) (w : World) (e : Ending) (w' : World) : Prop := e = .returned (.agg #[.int .i64 k, .int .i64 a, .int .i64 b]) ∧ Below w.heap.size w w'

abbrev sgs : ByteArray := ⟨#[123, 125, 91, 93, 58, 44]⟩
theorem sgs_cases {P : Nat → Nat → Prop} (h0 : P 0 123) (h1 : P 1 125) (h2 : P 2 91) (h3 : P 3 93) (h4 : P 4 58) (h5 : P 5 44) (k : Nat) (hk : k < sgs.size) : P k sgs[k].toNat := by
  have : k < 6 := hk
  rcases (by omega : k = 0 ∨ k = 1 ∨ k = 2 ∨ k = 3 ∨ k = 4 ∨ k = 5) with rfl | rfl | rfl | rfl | rfl | rfl
  · exact h0
  · exact h1
  · exact h2
  · exact h3
  · exact h4
  · exact h5
theorem beq_nat {n m : Nat} (h : ((n : Int) == (m : Int)) = true) : m = n := by
  rw [beq_iff_eq] at h; omega
theorem sign_hit (b : UInt8) (k : Nat) (hk : k < sgs.size) (h : ((sgs[k].toNat : Int) == (b.toNat : Int)) = true) : signL b = some k := by
  have h' := beq_nat h
  clear h
  revert h'
  refine sgs_cases (P := fun k n => b.toNat = n → signL b = some k) ?_ ?_ ?_ ?_ ?_ ?_ k hk <;>
    (intro h; unfold signL; rw [h]; rfl)
theorem sign_none (b : UInt8) (h : ∀ k (hk : k < sgs.size), ((sgs[k].toNat : Int) == (b.toNat : Int)) = false) : signL b = none := by
  have key : ∀ k (hk : k < sgs.size), (b.toNat == sgs[k].toNat) = false := fun k hk => by
    have := h k hk
    rw [beq_eq_false_iff_ne] at this ⊢
    intro e; apply this; rw [e]
  have k0 : (b.toNat == 123) = false := key 0 (by decide)
  have k1 : (b.toNat == 125) = false := key 1 (by decide)
  have k2 : (b.toNat == 91) = false := key 2 (by decide)
  have k3 : (b.toNat == 93) = false := key 3 (by decide)
  have k4 : (b.toNat == 58) = false := key 4 (by decide)
  have k5 : (b.toNat == 44) = false := key 5 (by decide)
  unfold signL
  rw [k0, k1, k2, k3, k4, k5]; rfl
theorem tok_cons (b : UInt8) (r : List UInt8) (h : signL b = none) : tokL (b :: r) =
      if blkB b then (10, 1 + runL blkB r)
      else if b.toNat == 34 then (if (quoL r).2 then 6 else 11, 1 + (quoL r).1)
      else if b.toNat == 47 then (if (remL r).2 then 9 else 11, 1 + (remL r).1)
      else if letB b then (if wordL ((b :: r).takeWhile letB) then 8 else 11, 1 + runL letB r)
      else if numL (b :: r) = 0 then (11, 1) else (7, numL (b :: r)) := by
  simp only [tokL, h]
/-- The token at a place: its kind, where it ends. -/
def tkE (s : ByteArray) (i : Nat) : Nat × Nat := ((tokL (fromL s i)).1, i + (tokL (fromL s i)).2)
theorem tkE_sign {s : ByteArray} {i k : Nat} (h : i < s.size) (hk : signL s[i] = some k) : tkE s i = (k, i + 1) := by
  unfold tkE
  rw [from_cons h]
  simp only [tokL, hk]

theorem take_run (p : UInt8 → Bool) (l : List UInt8) : l.takeWhile p = l.take (runL p l) := by
  unfold runL
  exact List.prefix_iff_eq_take.1 (List.takeWhile_prefix p)
theorem extract_from (s : ByteArray) (i k : Nat) : (s.extract i k).toList = (fromL s i).take (k - i) := by
  rw [Go.Lib.toList_data, ByteArray.data_extract, Array.toList_extract, List.extract_eq_take_drop]
  rfl
theorem word_map (l m : List UInt8) : (l.map UInt8.toNat == m.map UInt8.toNat) = (l == m) := by
  rw [Bool.eq_iff_iff, beq_iff_eq, beq_iff_eq]
  constructor
  · intro h
    exact (List.map_inj_right (fun a b h => UInt8.toNat_inj.1 h)).1 h
  · rintro rfl; rfl
theorem word_is {s : ByteArray} {i k : Nat} (h : i < s.size) (hk : k = i + 1 + runL letB (fromL s (i + 1))) (hl : letB s[i] = true) :
    wordL ((fromL s i).takeWhile letB) = ((s.extract i k).toList == [116, 114, 117, 101] || (s.extract i k).toList == [102, 97, 108, 115, 101] || (s.extract i k).toList == [110, 117, 108, 108]) := by
  have e : (s.extract i k).toList = (fromL s i).takeWhile letB := by
    rw [extract_from, take_run]
    congr 1
    rw [run_from h, hl, hk]
    simp only [if_true]
    omega
  rw [e]
  unfold wordL
  rw [← word_map, ← word_map _ [102, 97, 108, 115, 101], ← word_map _ [110, 117, 108, 108]]
  rfl

set_option maxRecDepth 100000 in
set_option maxHeartbeats 4000000 in
theorem token_any (s : ByteArray) (at' : Nat) (w : World) (hs : s.size ≤ 4096) (ha : at' < s.size) : Calls Tryz.prog 103 #[.string s, .int .i64 at'] w (TokPost (tkE s at').1 at' (tkE s at').2 w) := by
  have hb := byteB s[at']
  go_enter Tryz.func103, Tryz.ntmps103
  go_wp2_with fail
  go_loopw [7] (fun v wr => ∃ k : Nat, k ≤ 6 ∧ v = .int .i64 k ∧ wr = w.alloc (.cells #[.int .i64 0, .int .i64 0, .int .i64 0] 99) ∧ Hid (∀ j (hj : j < sgs.size), j < k → ((sgs[j].toNat : Int) == (s[at'].toNat : Int)) = false)) (fun v _ => 6 - (intOf v).toNat)
  case atStart => exact ⟨0, by omega, rfl, rfl, Lib.hid (fun j _ h => by omega)⟩
  case round =>
    obtain ⟨k, hk, rfl, rfl, N⟩ := hrel
    by_cases hlt : k < 6
    · have hk2 : k < sgs.size := hlt
      cases hq : ((sgs[k].toNat : Int) == (s[at'].toNat : Int)) with
      | false =>
        have N' : Hid (∀ j (hj : j < sgs.size), j < k + 1 → ((sgs[j].toNat : Int) == (s[at'].toNat : Int)) = false) := Lib.hid (fun j hj h => by
          rcases (by omega : j < k ∨ j = k) with h | rfl
          · exact N.out j hj h
          · exact hq)
        go_wp2_with fail
        go_roundw
        case rel => exact ⟨k + 1, by omega, by go_num, trivial, N'⟩
        case measure => simp [intOf]; omega
      | true =>
        have T : Hid (tkE s at' = (k, at' + 1)) := Lib.hid (tkE_sign ha (sign_hit _ k hk2 hq))
        go_wp2_with fail
        (try simp only [Exit.inBlock, Exit.then])
        refine bodyPost_ret (v := .agg #[.int .i64 k, .int .i64 at', .int .i64 (at' + 1)]) (by rw [results_cell1 rfl]; go_simp) rfl ⟨?_, (Below.refl _ _).alloc (Nat.le_refl _) _⟩
        rw [T.out]; rfl
    · obtain rfl : k = 6 := by omega
      have TC := Lib.hid (tok_cons s[at'] (fromL s (at' + 1)) (sign_none _ (fun j hj => N.out j hj hj)))
      have TE : Hid (tkE s at' = ((tokL (s[at'] :: fromL s (at' + 1))).1, at' + (tokL (s[at'] :: fromL s (at' + 1))).2)) := Lib.hid (by unfold tkE; rw [from_cons ha])
      clear N
      by_cases h1 : blkB s[at'] = true
      · have T : Hid (tkE s at' = (10, at' + 1 + runL blkB (fromL s (at' + 1)))) := Lib.hid (by rw [TE.out, TC.out, if_pos h1]; simp only [Prod.mk.injEq, true_and]; omega)
        have H1 := Lib.hid h1; clear h1
        go_wp2_with (go_at_call 135; refine (blank_any _ _).mono ?_; rintro e w' ⟨rfl, rfl⟩; rw [H1.out])
        go_loopw [] (fun wr => ∃ k : Nat, at' + 1 ≤ k ∧ k ≤ s.size ∧ wr = ((w.alloc (.cells #[.int .i64 0, .int .i64 0, .int .i64 0] 99)).alloc (.cells #[.int .i64 10, .int .i64 at', .int .i64 k] 99)) ∧ Hid (k + runL blkB (fromL s k) = at' + 1 + runL blkB (fromL s (at' + 1)))) (fun wr => s.size - (intOf ((wr.cell? ⟨w.heap.size + 1, 2, none⟩).getD undef)).toNat)
        case atStart => exact ⟨at' + 1, by omega, by omega, rfl, Lib.hid rfl⟩
        case round =>
          obtain ⟨k, hk0, hk, rfl, E⟩ := hrel
          by_cases hlt : k < s.size
          · cases hd : blkB s[k] with
            | true =>
              have E' : Hid (k + 1 + runL blkB (fromL s (k + 1)) = at' + 1 + runL blkB (fromL s (at' + 1))) := Lib.hid (by rw [← E.out, run_from hlt, hd]; simp; omega)
              have HD := Lib.hid hd; clear hd
              go_wp2_with (go_at_call 135; refine (blank_any _ _).mono ?_; rintro e w' ⟨rfl, rfl⟩; rw [HD.out])
              go_roundw
              case rel => exact ⟨k + 1, by omega, by omega, by go_num, E'⟩
              case measure => simp [intOf]; omega
            | false =>
              have E' : Hid (k = at' + 1 + runL blkB (fromL s (at' + 1))) := Lib.hid (by rw [← E.out, run_from hlt, hd]; simp)
              have HD := Lib.hid hd; clear hd
              go_wp2_with (go_at_call 135; refine (blank_any _ _).mono ?_; rintro e w' ⟨rfl, rfl⟩; rw [HD.out])
              refine bodyPost_ret (v := .agg #[.int .i64 10, .int .i64 at', .int .i64 k]) (by rw [results_cell1 rfl]; go_simp) rfl ⟨?_, ?_⟩
              · rw [T.out, ← E'.out]; rfl
              · exact ((Below.refl _ _).alloc (Nat.le_refl _) _).alloc (by simp) _
          · have E' : Hid (k = at' + 1 + runL blkB (fromL s (at' + 1))) := Lib.hid (by rw [← E.out, run_fromN (by omega)]; rfl)
            go_wp2_with fail
            refine bodyPost_ret (v := .agg #[.int .i64 10, .int .i64 at', .int .i64 k]) (by rw [results_cell1 rfl]; go_simp) rfl ⟨?_, ?_⟩
            · rw [T.out, ← E'.out]; rfl
            · exact ((Below.refl _ _).alloc (Nat.le_refl _) _).alloc (by simp) _
      · have n1 : blkB s[at'] = false := by simpa using h1
        have H1 := Lib.hid n1; clear h1 n1
        by_cases h2 : (s[at'].toNat : Int) = 34
        · have q2 : ((s[at'].toNat : Int) == 34) = true := by simpa using h2
          have T : Hid (tkE s at' = (if (qE s (at' + 1)).2 then 6 else 11, (qE s (at' + 1)).1)) := Lib.hid (by
            rw [TE.out, TC.out, if_neg (by simp [H1.out]), if_pos (by rw [byte_eq]; simpa using h2)]
            unfold qE; dsimp only
            rw [Nat.add_assoc])
          clear h2
          cases hd : (qE s (at' + 1)).2 with
          | true =>
            have T2 : Hid (tkE s at' = (6, (qE s (at' + 1)).1)) := Lib.hid (by rw [T.out, hd]; rfl)
            have HD := Lib.hid hd; clear hd
            go_wp2_with (first | (go_at_call 135; refine (blank_any _ _).mono ?_; rintro e w' ⟨rfl, rfl⟩; rw [H1.out]) | (go_at_call 136; refine (quoted_any _ _ _ hs ha).mono ?_; rintro e w' ⟨rfl, rfl⟩; rw [HD.out]))
            refine bodyPost_ret (v := .agg #[.int .i64 6, .int .i64 at', .int .i64 (qE s (at' + 1)).1]) (by rw [results_cell1 rfl]; go_simp) rfl ⟨?_, ?_⟩
            · rw [T2.out]; rfl
            · exact ((Below.refl _ _).alloc (Nat.le_refl _) _).alloc (by simp) _
          | false =>
            have T2 : Hid (tkE s at' = (11, (qE s (at' + 1)).1)) := Lib.hid (by rw [T.out, hd]; rfl)
            have HD := Lib.hid hd; clear hd
            go_wp2_with (first | (go_at_call 135; refine (blank_any _ _).mono ?_; rintro e w' ⟨rfl, rfl⟩; rw [H1.out]) | (go_at_call 136; refine (quoted_any _ _ _ hs ha).mono ?_; rintro e w' ⟨rfl, rfl⟩; rw [HD.out]))
            refine bodyPost_ret (v := .agg #[.int .i64 11, .int .i64 at', .int .i64 (qE s (at' + 1)).1]) (by rw [results_cell1 rfl]; go_simp) rfl ⟨?_, ?_⟩
            · rw [T2.out]; rfl
            · exact ((Below.refl _ _).alloc (Nat.le_refl _) _).alloc (by simp) _
        · have q2 : ((s[at'].toNat : Int) == 34) = false := by simpa using h2
          have n2 : (s[at'].toNat == 34) = false := by rw [byte_eq]; simpa using h2
          have H2 := Lib.hid n2; clear h2 n2
          by_cases h3 : (s[at'].toNat : Int) = 47
          · have q3 : ((s[at'].toNat : Int) == 47) = true := by simpa using h3
            have n3 : (s[at'].toNat == 47) = true := by rw [byte_eq]; simpa using h3
            have H3 := Lib.hid n3; clear h3 n3
            have T : Hid (tkE s at' = (if (reE s at').2 then 9 else 11, (reE s at').1)) := Lib.hid (by
              rw [TE.out, TC.out, if_neg (by simp [H1.out]), if_neg (by simp [H2.out]), if_pos H3.out]
              unfold reE; dsimp only
              rw [Nat.add_assoc])
            cases hd : (reE s at').2 with
            | true =>
              have T2 : Hid (tkE s at' = (9, (reE s at').1)) := Lib.hid (by rw [T.out, hd]; rfl)
              have HD := Lib.hid hd; clear hd
              go_wp2_with (first | (go_at_call 135; refine (blank_any _ _).mono ?_; rintro e w' ⟨rfl, rfl⟩; rw [H1.out]) | (go_at_call 137; refine (remark_any _ _ _ hs ha H3.out).mono ?_; rintro e w' ⟨rfl, rfl⟩; rw [HD.out]))
              refine bodyPost_ret (v := .agg #[.int .i64 9, .int .i64 at', .int .i64 (reE s at').1]) (by rw [results_cell1 rfl]; go_simp) rfl ⟨?_, ?_⟩
              · rw [T2.out]; rfl
              · exact ((Below.refl _ _).alloc (Nat.le_refl _) _).alloc (by simp) _
            | false =>
              have T2 : Hid (tkE s at' = (11, (reE s at').1)) := Lib.hid (by rw [T.out, hd]; rfl)
              have HD := Lib.hid hd; clear hd
              go_wp2_with (first | (go_at_call 135; refine (blank_any _ _).mono ?_; rintro e w' ⟨rfl, rfl⟩; rw [H1.out]) | (go_at_call 137; refine (remark_any _ _ _ hs ha H3.out).mono ?_; rintro e w' ⟨rfl, rfl⟩; rw [HD.out]))
              refine bodyPost_ret (v := .agg #[.int .i64 11, .int .i64 at', .int .i64 (reE s at').1]) (by rw [results_cell1 rfl]; go_simp) rfl ⟨?_, ?_⟩
              · rw [T2.out]; rfl
              · exact ((Below.refl _ _).alloc (Nat.le_refl _) _).alloc (by simp) _
          · have q3 : ((s[at'].toNat : Int) == 47) = false := by simpa using h3
            have n3 : (s[at'].toNat == 47) = false := by rw [byte_eq]; simpa using h3
            have H3 := Lib.hid n3; clear h3 n3
            cases h4 : letB s[at'] with
            | true =>
              have H4 := Lib.hid h4; clear h4
              have T : Hid (tkE s at' = (if wordL ((fromL s at').takeWhile letB) then 8 else 11, at' + 1 + runL letB (fromL s (at' + 1)))) := Lib.hid (by
                rw [TE.out, TC.out, if_neg (by simp [H1.out]), if_neg (by simp [H2.out]), if_neg (by simp [H3.out]), if_pos H4.out, ← from_cons ha]
                dsimp only
                rw [Nat.add_assoc])
              go_wp2_with (first | (go_at_call 135; refine (blank_any _ _).mono ?_; rintro e w' ⟨rfl, rfl⟩; rw [H1.out]) | (go_at_call 138; refine (letter_any _ _).mono ?_; rintro e w' ⟨rfl, rfl⟩; rw [H4.out]))
              go_loopw [] (fun wr => ∃ k : Nat, at' + 1 ≤ k ∧ k ≤ s.size ∧ wr = ((w.alloc (.cells #[.int .i64 0, .int .i64 0, .int .i64 0] 99)).alloc (.cells #[.int .i64 11, .int .i64 at', .int .i64 k] 99)) ∧ Hid (k + runL letB (fromL s k) = at' + 1 + runL letB (fromL s (at' + 1)))) (fun wr => s.size - (intOf ((wr.cell? ⟨w.heap.size + 1, 2, none⟩).getD undef)).toNat)
              case atStart => exact ⟨at' + 1, by omega, by omega, rfl, Lib.hid rfl⟩
              case round =>
                obtain ⟨k, hk0, hk, rfl, E⟩ := hrel
                by_cases hlt : k < s.size
                · cases hd : letB s[k] with
                  | true =>
                    have E' : Hid (k + 1 + runL letB (fromL s (k + 1)) = at' + 1 + runL letB (fromL s (at' + 1))) := Lib.hid (by rw [← E.out, run_from hlt, hd]; simp; omega)
                    have HD := Lib.hid hd; clear hd
                    go_wp2_with (go_at_call 138; refine (letter_any _ _).mono ?_; rintro e w' ⟨rfl, rfl⟩; rw [HD.out])
                    go_roundw
                    case rel => exact ⟨k + 1, by omega, by omega, by go_num, E'⟩
                    case measure => simp [intOf]; omega
                  | false =>
                    have E' : Hid (k = at' + 1 + runL letB (fromL s (at' + 1))) := Lib.hid (by rw [← E.out, run_from hlt, hd]; simp)
                    have HD := Lib.hid hd; clear hd
                    have WD := Lib.hid (word_is ha E'.out H4.out)
                    by_cases t1 : (s.extract at' k).toList = [116, 114, 117, 101]
                    · have c1 : ((s.extract at' k).toList == [116, 114, 117, 101]) = true := by simpa using t1
                      have T2 : Hid (tkE s at' = (8, k)) := Lib.hid (by rw [T.out, WD.out, ← E'.out]; simp [t1])
                      go_wp2_with (go_at_call 138; refine (letter_any _ _).mono ?_; rintro e w' ⟨rfl, rfl⟩; rw [HD.out])
                      refine bodyPost_ret (v := .agg #[.int .i64 8, .int .i64 at', .int .i64 k]) (by rw [results_cell1 rfl]; go_simp) rfl ⟨?_, ?_⟩
                      · rw [T2.out]; rfl
                      · exact ((Below.refl _ _).alloc (Nat.le_refl _) _).alloc (by simp) _
                    · have c1 : ((s.extract at' k).toList == [116, 114, 117, 101]) = false := by simpa using t1
                      by_cases t2 : (s.extract at' k).toList = [102, 97, 108, 115, 101]
                      · have c2 : ((s.extract at' k).toList == [102, 97, 108, 115, 101]) = true := by simpa using t2
                        have T2 : Hid (tkE s at' = (8, k)) := Lib.hid (by rw [T.out, WD.out, ← E'.out]; simp [t2])
                        go_wp2_with (go_at_call 138; refine (letter_any _ _).mono ?_; rintro e w' ⟨rfl, rfl⟩; rw [HD.out])
                        refine bodyPost_ret (v := .agg #[.int .i64 8, .int .i64 at', .int .i64 k]) (by rw [results_cell1 rfl]; go_simp) rfl ⟨?_, ?_⟩
                        · rw [T2.out]; rfl
                        · exact ((Below.refl _ _).alloc (Nat.le_refl _) _).alloc (by simp) _
                      · have c2 : ((s.extract at' k).toList == [102, 97, 108, 115, 101]) = false := by simpa using t2
                        by_cases t3 : (s.extract at' k).toList = [110, 117, 108, 108]
                        · have c3 : ((s.extract at' k).toList == [110, 117, 108, 108]) = true := by simpa using t3
                          have T2 : Hid (tkE s at' = (8, k)) := Lib.hid (by rw [T.out, WD.out, ← E'.out]; simp [t3])
                          go_wp2_with (go_at_call 138; refine (letter_any _ _).mono ?_; rintro e w' ⟨rfl, rfl⟩; rw [HD.out])
                          refine bodyPost_ret (v := .agg #[.int .i64 8, .int .i64 at', .int .i64 k]) (by rw [results_cell1 rfl]; go_simp) rfl ⟨?_, ?_⟩
                          · rw [T2.out]; rfl
                          · exact ((Below.refl _ _).alloc (Nat.le_refl _) _).alloc (by simp) _
                        · have c3 : ((s.extract at' k).toList == [110, 117, 108, 108]) = false := by simpa using t3
                          have T2 : Hid (tkE s at' = (11, k)) := Lib.hid (by rw [T.out, WD.out, ← E'.out]; simp [t1, t2, t3])
                          go_wp2_with (go_at_call 138; refine (letter_any _ _).mono ?_; rintro e w' ⟨rfl, rfl⟩; rw [HD.out])
                          refine bodyPost_ret (v := .agg #[.int .i64 11, .int .i64 at', .int .i64 k]) (by rw [results_cell1 rfl]; go_simp) rfl ⟨?_, ?_⟩
                          · rw [T2.out]; rfl
                          · exact ((Below.refl _ _).alloc (Nat.le_refl _) _).alloc (by simp) _
                · have E' : Hid (k = at' + 1 + runL letB (fromL s (at' + 1))) := Lib.hid (by rw [← E.out, run_fromN (by omega)]; rfl)
                  have WD := Lib.hid (word_is ha E'.out H4.out)
                  by_cases t1 : (s.extract at' k).toList = [116, 114, 117, 101]
                  · have c1 : ((s.extract at' k).toList == [116, 114, 117, 101]) = true := by simpa using t1
                    have T2 : Hid (tkE s at' = (8, k)) := Lib.hid (by rw [T.out, WD.out, ← E'.out]; simp [t1])
                    go_wp2_with fail
                    refine bodyPost_ret (v := .agg #[.int .i64 8, .int .i64 at', .int .i64 k]) (by rw [results_cell1 rfl]; go_simp) rfl ⟨?_, ?_⟩
                    · rw [T2.out]; rfl
                    · exact ((Below.refl _ _).alloc (Nat.le_refl _) _).alloc (by simp) _
                  · have c1 : ((s.extract at' k).toList == [116, 114, 117, 101]) = false := by simpa using t1
                    by_cases t2 : (s.extract at' k).toList = [102, 97, 108, 115, 101]
                    · have c2 : ((s.extract at' k).toList == [102, 97, 108, 115, 101]) = true := by simpa using t2
                      have T2 : Hid (tkE s at' = (8, k)) := Lib.hid (by rw [T.out, WD.out, ← E'.out]; simp [t2])
                      go_wp2_with fail
                      refine bodyPost_ret (v := .agg #[.int .i64 8, .int .i64 at', .int .i64 k]) (by rw [results_cell1 rfl]; go_simp) rfl ⟨?_, ?_⟩
                      · rw [T2.out]; rfl
                      · exact ((Below.refl _ _).alloc (Nat.le_refl _) _).alloc (by simp) _
                    · have c2 : ((s.extract at' k).toList == [102, 97, 108, 115, 101]) = false := by simpa using t2
                      by_cases t3 : (s.extract at' k).toList = [110, 117, 108, 108]
                      · have c3 : ((s.extract at' k).toList == [110, 117, 108, 108]) = true := by simpa using t3
                        have T2 : Hid (tkE s at' = (8, k)) := Lib.hid (by rw [T.out, WD.out, ← E'.out]; simp [t3])
                        go_wp2_with fail
                        refine bodyPost_ret (v := .agg #[.int .i64 8, .int .i64 at', .int .i64 k]) (by rw [results_cell1 rfl]; go_simp) rfl ⟨?_, ?_⟩
                        · rw [T2.out]; rfl
                        · exact ((Below.refl _ _).alloc (Nat.le_refl _) _).alloc (by simp) _
                      · have c3 : ((s.extract at' k).toList == [110, 117, 108, 108]) = false := by simpa using t3
                        have T2 : Hid (tkE s at' = (11, k)) := Lib.hid (by rw [T.out, WD.out, ← E'.out]; simp [t1, t2, t3])
                        go_wp2_with fail
                        refine bodyPost_ret (v := .agg #[.int .i64 11, .int .i64 at', .int .i64 k]) (by rw [results_cell1 rfl]; go_simp) rfl ⟨?_, ?_⟩
                        · rw [T2.out]; rfl
                        · exact ((Below.refl _ _).alloc (Nat.le_refl _) _).alloc (by simp) _
            | false =>
              have H4 := Lib.hid h4; clear h4
              have T : Hid (tkE s at' = if numL (fromL s at') = 0 then (11, at' + 1) else (7, at' + numL (fromL s at'))) := Lib.hid (by
                rw [TE.out, TC.out, if_neg (by simp [H1.out]), if_neg (by simp [H2.out]), if_neg (by simp [H3.out]), if_neg (by simp [H4.out]), ← from_cons ha]
                split <;> rfl)
              by_cases h5 : numL (fromL s at') = 0
              · have T2 : Hid (tkE s at' = (11, at' + 1)) := Lib.hid (by rw [T.out, if_pos h5])
                have H5 := Lib.hid h5; clear h5
                go_wp2_with (first | (go_at_call 135; refine (blank_any _ _).mono ?_; rintro e w' ⟨rfl, rfl⟩; rw [H1.out]) | (go_at_call 138; refine (letter_any _ _).mono ?_; rintro e w' ⟨rfl, rfl⟩; rw [H4.out]) | (go_at_call 139; refine (number_any _ _ _ hs ha).mono ?_; rintro e w' ⟨rfl, rfl⟩; rw [H5.out]))
                refine bodyPost_ret (v := .agg #[.int .i64 11, .int .i64 at', .int .i64 (at' + 1)]) (by rw [results_cell1 rfl]; go_simp) rfl ⟨?_, ?_⟩
                · rw [T2.out]; rfl
                · exact ((Below.refl _ _).alloc (Nat.le_refl _) _).alloc (by simp) _
              · have T2 : Hid (tkE s at' = (7, at' + numL (fromL s at'))) := Lib.hid (by rw [T.out, if_neg h5])
                obtain ⟨m, hm⟩ : ∃ m, at' + numL (fromL s at') = m := ⟨_, rfl⟩
                have hm2 : at' < m := by omega
                have hm3 : m ≤ s.size := by have := num_le (fromL s at'); rw [from_len] at this; omega
                have HM := Lib.hid hm; clear hm h5
                go_wp2_with (first | (go_at_call 135; refine (blank_any _ _).mono ?_; rintro e w' ⟨rfl, rfl⟩; rw [H1.out]) | (go_at_call 138; refine (letter_any _ _).mono ?_; rintro e w' ⟨rfl, rfl⟩; rw [H4.out]) | (go_at_call 139; refine (number_any _ _ _ hs ha).mono ?_; rintro e w' ⟨rfl, rfl⟩; rw [HM.out]))
                refine bodyPost_ret (v := .agg #[.int .i64 7, .int .i64 at', .int .i64 m]) (by rw [results_cell1 rfl]; go_simp) rfl ⟨?_, ?_⟩
                · rw [T2.out, HM.out]; rfl
                · exact ((Below.refl _ _).alloc (Nat.le_refl _) _).alloc (by simp) _

theorem add_plain (b o i : Nat) : (⟨b, o, none⟩ : Addr).add i = ⟨b, o + i, none⟩ := by unfold Addr.add; split <;> simp_all

/-- How the elements of a row lie: their type, how many cells each, which. -/
structure Ly (α : Type) where
  ty : Nat
  sz : Nat
  cells : α → List Value
  len : ∀ a, (cells a).length = sz
  one : ∀ a, ∀ u ∈ cells a, u.oneCell' = true
  pos : 0 < sz

variable {α : Type} {L : Ly α} {w w' : World} {base : Nat} {v : Value} {xs : List α}

def Ly.all (L : Ly α) (xs : List α) : List Value := xs.flatMap L.cells
theorem all_app (a b : List α) : L.all (a ++ b) = L.all a ++ L.all b := by simp [Ly.all]
theorem all_one (a : α) : L.all [a] = L.cells a := by simp [Ly.all]
theorem all_len (xs : List α) : (L.all xs).length = xs.length * L.sz := by
  induction xs with
  | nil => simp [Ly.all]
  | cons c cs ih =>
    have : L.all (c :: cs) = L.cells c ++ L.all cs := by simp [Ly.all]
    rw [this, List.length_append, ih, List.length_cons, L.len, Nat.succ_mul, Nat.add_comm]
theorem all_ones (xs : List α) : ∀ u ∈ L.all xs, u.oneCell' = true := by
  intro u hu
  obtain ⟨c, _, hc⟩ := List.mem_flatMap.1 hu
  exact L.one c u hc
theorem split_at {xs : List α} {i : Nat} {x : α} (h : xs[i]? = some x) : xs = xs.take i ++ (x :: xs.drop (i + 1)) ∧ i < xs.length := by
  obtain ⟨hl, he⟩ := List.getElem?_eq_some_iff.1 h
  exact ⟨by rw [← he]; simp, hl⟩
theorem all_split {xs : List α} {i : Nat} {x : α} (h : xs[i]? = some x) : L.all xs = L.all (xs.take i) ++ (L.cells x ++ L.all (xs.drop (i + 1))) ∧ (L.all (xs.take i)).length = i * L.sz := by
  obtain ⟨h1, hl⟩ := split_at h
  constructor
  · conv => lhs; rw [h1]
    rw [all_app]; simp [Ly.all]
  · rw [all_len, List.length_take, Nat.min_eq_left (by omega)]
theorem all_get {xs : List α} {i j : Nat} {x : α} {u : Value} (h : xs[i]? = some x) (hu : (L.cells x)[j]? = some u) : (L.all xs)[i * L.sz + j]? = some u := by
  obtain ⟨h1, h2⟩ := all_split (L := L) h
  have hj := (List.getElem?_eq_some_iff.1 hu).1
  rw [h1, List.getElem?_append_right (by omega), h2, Nat.add_sub_cancel_left, List.getElem?_append_left hj, hu]

/-- An element lies at an address. -/
def Ly.At (L : Ly α) (w : World) (b o : Nat) (x : α) : Prop := ∀ j u, (L.cells x)[j]? = some u → w.cell? ⟨b, o + j, none⟩ = some u
/-- The elements of a slice, as they lie in memory. -/
def Ly.Row (L : Ly α) (w : World) (p : Option Addr) (xs : List α) : Prop := ∀ (i : Nat) x, xs[i]? = some x → ∃ b o, p = some ⟨b, o, none⟩ ∧ L.At w b (o + i * L.sz) x
/-- v is a slice of these elements in memory of the call's own, from block base on. -/
def Ly.Own (L : Ly α) (w : World) (base : Nat) (v : Value) (xs : List α) : Prop := w.ownsRow base L.ty L.sz v xs.length (L.all xs)

theorem cell_later {w w' : World} (hb : Below w.heap.size w w') {b o : Nat} {u : Value} (h : w.cell? ⟨b, o, none⟩ = some u) : w'.cell? ⟨b, o, none⟩ = some u :=
  (hb.cell (p := ⟨b, o, none⟩) (World.block_lt_of_cell? w ⟨b, o, none⟩ h)).trans h
theorem Ly.At.below {b o : Nat} {x : α} (h : L.At w b o x) (hb : Below w.heap.size w w') : L.At w' b o x := fun j u hu => cell_later hb (h j u hu)
theorem Ly.Row.below {p : Option Addr} (h : L.Row w p xs) (hb : Below w.heap.size w w') : L.Row w' p xs := fun i x hi => by
  obtain ⟨b, o, hp, hc⟩ := h i x hi
  exact ⟨b, o, hp, Ly.At.below hc hb⟩
theorem Ly.Row.nil (p : Option Addr) : L.Row w p [] := fun i x h => by simp at h
theorem Ly.Own.nil (w : World) (base : Nat) : L.Own w base (.slice none 0 0) [] := World.ownsRow_nil _ _ _ _
theorem Ly.Own.form (h : L.Own w base v xs) : ∃ p cap, v = .slice p xs.length cap := by
  rcases h.2 with ⟨h, hn⟩ | ⟨g, cap, _, h, _⟩
  · rw [hn]; exact ⟨_, _, h⟩
  · exact ⟨_, _, h⟩
theorem Ly.Own.formS (h : L.Own w base v xs) (h0 : xs ≠ []) : ∃ g cap, v = .slice (some ⟨g, 0, none⟩) xs.length cap ∧ base ≤ g ∧ g < w.heap.size ∧ xs.length ≤ cap := by
  rcases h.2 with ⟨h, hn⟩ | ⟨g, cap, _, h, hb, hg, hc, _⟩
  · exact absurd (List.eq_nil_of_length_eq_zero hn) h0
  · exact ⟨g, cap, h, hb, (Array.getElem?_eq_some_iff.1 hg).1, hc⟩
theorem Ly.Own.at {g n cap : Nat} (h : L.Own w base (.slice (some ⟨g, 0, none⟩) n cap) xs) {i : Nat} {x : α} (hi : xs[i]? = some x) : L.At w g (i * L.sz) x := by
  intro j u hu
  have := World.ownsRow.cells h (g := g) rfl _ _ (all_get hi hu)
  rwa [add_plain, Nat.zero_add] at this
theorem Ly.Own.row {p : Option Addr} {n cap : Nat} (h : L.Own w base (.slice p n cap) xs) : L.Row w p xs := by
  intro i x hi
  rcases h.2 with ⟨_, hn⟩ | ⟨g, _, _, hv, _⟩
  · have := (List.getElem?_eq_some_iff.1 hi).1; omega
  · cases hv
    exact ⟨g, 0, rfl, by rw [Nat.zero_add]; exact Ly.Own.at h hi⟩
theorem Ly.Own.lt (h : L.Own w base v xs) {g : Nat} (hg : v.ownBlock = some g) : base ≤ g ∧ g < w.heap.size := World.ownsRow.lt h g hg
theorem Ly.Own.below (h : L.Own w base v xs) (hb : Below w.heap.size w w') : L.Own w' base v xs :=
  World.ownsRow.kept (row := none) h ⟨hb.os, hb.tape, hb.output, hb.size, fun k hk _ => hb.block k hk⟩ (by cases v.ownBlock <;> simp)
theorem Ly.Own.mono {base' : Nat} (h : L.Own w base v xs) (hb : base' ≤ base) : L.Own w base' v xs := by
  refine ⟨h.1, ?_⟩
  rcases h.2 with h | ⟨g, cap, cur, hv, h1, h2⟩
  · exact .inl h
  · exact .inr ⟨g, cap, cur, hv, Nat.le_trans hb h1, h2⟩
theorem Ly.Own.frozen {g n cap : Nat} (h : L.Own w base (.slice (some ⟨g, 0, none⟩) n cap) xs) (i : Nat) : w.frozen? ⟨g, i, none⟩ = false := by
  rcases h.2 with ⟨hv, _⟩ | ⟨g', cap', cur, hv, hb, hg, _⟩
  · cases hv
  · cases hv
    simp [World.frozen?, hg]
/-- The block of a row, as an object of its elements' type. -/
theorem Ly.Own.obj (h : L.Own w base v xs) {g : Nat} (hg : v.ownBlock = some g) : ∃ cur, w.heap[g]? = some (.cells cur L.ty (0, 0)) := by
  rcases h.2 with ⟨hv, _⟩ | ⟨g', cap', cur, hv, hb, hgg, _⟩
  · subst hv; cases hg
  · subst hv; cases hg; exact ⟨cur, hgg⟩
theorem Ly.Own.kept {row : Option Nat} (h : L.Own w base v xs) (hg : w.grownBy w' row) (hne : ∀ g, v.ownBlock = some g → row ≠ some g) : L.Own w' base v xs :=
  World.ownsRow.kept h hg (by
    cases hv : v.ownBlock with
    | none => exact .inl rfl
    | some g => exact .inr (fun e => hne g hv e.symm))
theorem heap_setCell_at {w : World} {g i : Nat} {cur : Array Value} {e : TypeId} {fr : Nat × Nat} (h : w.heap[g]? = some (.cells cur e fr)) (u : Value) : (w.setCell ⟨g, i, none⟩ u).heap[g]? = some (.cells (cur.setIfInBounds i u) e fr) := by
  simp [World.setCell, Array.getElem?_modify, h]
theorem grown_refl (w : World) (row : Option Nat) : w.grownBy w row := ⟨rfl, rfl, rfl, Nat.le_refl _, fun _ _ _ => rfl⟩
theorem grown_of_below {w w' : World} (h : Below w.heap.size w w') (row : Option Nat) : w.grownBy w' row := ⟨h.os, h.tape, h.output, h.size, fun k hk _ => h.block k hk⟩
theorem grown_trans {w w1 w2 : World} {row row1 : Option Nat} (h : w.grownBy w1 row) (h1 : w1.grownBy w2 row1) (hr : ∀ g, row1 = some g → row = some g ∨ w.heap.size ≤ g) : w.grownBy w2 row :=
  ⟨h1.os.trans h.os, h1.tape.trans h.tape, h1.output.trans h.output, Nat.le_trans h.size h1.size, fun k hk hne => (h1.block k (Nat.lt_of_lt_of_le hk h.size) (fun e => by rcases hr k e.symm with h | h; exact hne h.symm; omega)).trans (h.block k hk hne)⟩
theorem grown_set {w w1 : World} {g i : Nat} (h : w.grownBy w1 (some g)) (u : Value) : w.grownBy (w1.setCell ⟨g, i, none⟩ u) (some g) :=
  ⟨h.os, h.tape, h.output, by simpa using h.size, fun k hk hne => by
    have : k ≠ g := fun e => hne (by rw [e])
    rw [← h.block k hk hne]
    simp [World.setCell, Array.getElem?_modify, this.symm]⟩
/-- What was there ahead of block base is as it was, where only later blocks were written. -/
theorem below_grown {w w' : World} {base g : Nat} (h : w.grownBy w' (some g)) (hg : base ≤ g) (hb : base ≤ w.heap.size) : Below base w w' :=
  ⟨h.os, h.tape, h.output, h.size, fun k hk => h.block k (by omega) (fun e => by cases e; omega)⟩
theorem below_grownN {w w' : World} {base : Nat} {row : Option Nat} (h : w.grownBy w' row) (hg : ∀ g, row = some g → base ≤ g) (hb : base ≤ w.heap.size) : Below base w w' :=
  ⟨h.os, h.tape, h.output, h.size, fun k hk => h.block k (by omega) (fun e => by have := hg k e.symm; omega)⟩

def Tk.cells (t : Tk) : List Value := [.int .i64 t.k, .int .i64 t.fr, .int .i64 (Tk.to t)]
/-- Tokens. -/
def lyT : Ly Tk where
  ty := 99
  sz := 3
  cells := Tk.cells
  len _ := rfl
  one t u hu := by
    simp [Tk.cells] at hu
    rcases hu with rfl | rfl | rfl <;> rfl
  pos := by decide
theorem info49 : (Tryz.prog.info? 99).map (fun i => (i.zero, i.size, i.bytes)) = some (some (.agg #[.int .i64 0, .int .i64 0, .int .i64 0]), 3, 24) := by kernel_rfl

theorem toks_fuel : ∀ (n m a : Nat) (l : List UInt8), l.length ≤ n → l.length ≤ m → toksF n a l = toksF m a l
  | 0, 0, _, [], _, _ => rfl
  | 0, _ + 1, _, [], _, _ => rfl
  | _ + 1, 0, _, [], _, _ => rfl
  | _ + 1, _ + 1, _, [], _, _ => rfl
  | 0, _, _, _ :: _, h, _ => by simp at h
  | _ + 1, 0, _, _ :: _, _, h => by simp at h
  | n + 1, m + 1, a, b :: r, h, h' => by
    have := tok_le b r
    unfold toksF
    rw [toks_fuel n m _ _ (by rw [List.length_drop, List.length_cons] at *; omega) (by rw [List.length_drop, List.length_cons] at *; omega)]
/-- The tokens from a place on. -/
def tkF (s : ByteArray) (i : Nat) : List Tk := toksF s.size i (fromL s i)
theorem tkF_end {s : ByteArray} {i : Nat} (h : s.size ≤ i) : tkF s i = [] := by
  unfold tkF
  rw [from_nil h]
  cases s.size <;> rfl
theorem tkE_le {s : ByteArray} {i : Nat} (h : i < s.size) : i + 1 ≤ (tkE s i).2 ∧ (tkE s i).2 ≤ s.size := by
  unfold tkE
  have hl := from_len s (i + 1)
  rw [from_cons h]
  have := tok_le s[i] (fromL s (i + 1))
  dsimp only
  omega
theorem tkF_step {s : ByteArray} {i : Nat} (h : i < s.size) : tkF s i = ⟨(tkE s i).1, i, (tkE s i).2⟩ :: tkF s (tkE s i).2 := by
  obtain ⟨n, hn⟩ : ∃ n, s.size = n + 1 := ⟨s.size - 1, by omega⟩
  have hl := from_len s i
  have hle := tkE_le h
  have e : (fromL s i).drop (tokL (fromL s i)).2 = fromL s (tkE s i).2 := by rw [from_drop]; rfl
  unfold tkF
  rw [hn]
  have h2 : fromL s i = s[i] :: fromL s (i + 1) := from_cons h
  conv => lhs; rw [h2]; unfold toksF
  rw [← h2, e, toks_fuel n (n + 1) _ _ (by rw [from_len]; omega) (by rw [from_len]; omega)]
  rfl
theorem tkF_toks (s : ByteArray) : tkF s 0 = toks s.data.toList := by
  unfold tkF toks fromL
  rw [List.drop_zero]
  congr 1
theorem tkF_len {s : ByteArray} : ∀ (n i : Nat), s.size - i ≤ n → (tkF s i).length ≤ s.size - i := by
  intro n
  induction n with
  | zero => intro i h; rw [tkF_end (by omega)]; simp
  | succ n ih =>
    intro i h
    by_cases hi : i < s.size
    · have hle := tkE_le hi
      have := ih (tkE s i).2 (by omega)
      rw [tkF_step hi, List.length_cons]
      omega
    · rw [tkF_end (by omega)]; simp

/-- What Tokens answers. -/
def ToksPost (s : ByteArray) (w : World) (e : Ending) (w' : World) : Prop :=
  ∃ p cap, e = .returned (.tuple #[.slice p (tkF s 0).length cap, .int .i64 0]) ∧ lyT.Own w' w.heap.size (.slice p (tkF s 0).length cap) (tkF s 0) ∧ Below w.heap.size w w'

theorem three_new {w : World} {H : Nat} (hH : w.heap.size = H) (a b c : Int) : ∀ j u, [Value.int .i64 a, .int .i64 b, .int .i64 c][j]? = some u → (w.alloc (.cells #[.int .i64 a, .int .i64 b, .int .i64 c] 99)).cell? ((⟨H, 0, none⟩ : Addr).add j) = some u := by
  subst hH
  exact World.news_of_block (heap_alloc_new w _)

theorem box_cell (w : World) (cs : Array Value) (ty : Nat) (o : Obj) {j : Nat} {u : Value} (h : cs[j]? = some u) : ((w.alloc (.cells cs ty)).alloc o).cell? ⟨w.heap.size, j, none⟩ = some u :=
  cell_later ((Below.refl _ _).alloc (Nat.le_refl _) o) (by rw [World.cell?_alloc_mark]; exact h)
theorem below1 {w w1 : World} {n : Nat} (h : Below n w w1) (hn : n ≤ w1.heap.size) (a : Obj) : Below n w (w1.alloc a) := h.alloc hn a
theorem below2 {w w1 : World} {n : Nat} (h : Below n w w1) (hn : n ≤ w1.heap.size) (a b : Obj) : Below n w ((w1.alloc a).alloc b) := (h.alloc hn a).alloc (by simp; omega) b
set_option maxRecDepth 100000 in
set_option maxHeartbeats 2000000 in
theorem tokens_yes (s : ByteArray) (w : World) (hs : s.size ≤ 300) : Calls Tryz.prog 52 #[.string s] w (ToksPost s w) := by
  obtain ⟨i0, hi, hz0, hz1, hz2⟩ := info_parts info49
  go_enter Tryz.func52, Tryz.ntmps52
  go_wp2_with fail
  go_loopw [4, 5] (fun v a wr => ∃ (k : Nat) (ds : List Tk), k ≤ s.size ∧ ds.length ≤ k ∧ a = .int .i64 k ∧ Hid (lyT.Own wr w.heap.size v ds) ∧ Hid (ds ++ tkF s k = tkF s 0) ∧ Hid (Below w.heap.size w wr)) (fun _ a _ => s.size - (intOf a).toNat)
  case atStart => exact ⟨0, [], by omega, by simp, rfl, Lib.hid (Ly.Own.nil _ _), Lib.hid rfl, Lib.hid (Below.refl _ _)⟩
  case round =>
    obtain ⟨k, ds, hk, hd, rfl, O, E, B⟩ := hrel
    by_cases hlt : k < s.size
    · have hle := tkE_le hlt
      have E' : Hid ((ds ++ [⟨(tkE s k).1, k, (tkE s k).2⟩]) ++ tkF s (tkE s k).2 = tkF s 0) := Lib.hid (by rw [List.append_assoc, List.singleton_append, ← tkF_step hlt]; exact E.out)
      have TK := Lib.hid (token_any s k)
      generalize (tkE s k).1 = K at *
      generalize (tkE s k).2 = M at *
      clear E
      obtain ⟨p, cap, rfl⟩ := O.out.form
      generalize hN : ds.length = N at *
      have HN := Lib.hid hN; clear hN
      have OW : Hid (∀ W, Below wr.heap.size wr W → W.ownsRow w.heap.size 99 3 (.slice p N cap) N (lyT.all ds)) := Lib.hid (fun W hW => by
        have := Ly.Own.below O.out hW
        unfold Ly.Own at this
        rw [HN.out] at this
        exact this)
      go_wp2_with (first | (go_at_call 103; refine (TK.out _ (by omega) hlt).mono ?_; rintro e w1 ⟨rfl, hb1⟩; have B1 := Lib.hid hb1; clear hb1) | (at_builtin; refine wpList_append_lies _ rfl _ _ 92 rfl w.heap.size 99 i0 _ 3 24 Tryz.underlying92 hi hz0 hz1 hz2 rfl (by decide) (.slice p N cap) N (lyT.all ds) rfl (OW.out _ (below2 B1.out B1.out.size _ _)) ⟨w1.heap.size + 1, 0, none⟩ 1 1 (Tk.cells ⟨K, k, M⟩) rfl rfl (three_new (by simp) K k M) (lyT.one ⟨K, k, M⟩) (by decide) (by unfold maxLen; omega) (by omega) (Nat.le_trans B.out.size (below2 B1.out B1.out.size _ _).size) (w1.heap.size + 2) (by simp) ?_; intro g2 cap2 w6 hown hgrow hgg hlt2; have c2 : w6.cell? ⟨w1.heap.size, 2, none⟩ = some (.int .i64 M) := hgrow.cell (a := ⟨w1.heap.size, 2, none⟩) (box_cell _ _ _ _ rfl) (fun e => absurd (O.out.lt (g := w1.heap.size) e.symm).2 (Nat.not_lt.2 B1.out.size)); have HO := Lib.hid hown; have HG := Lib.hid hgrow; clear hown hgrow hgg))
      go_roundw
      case rel =>
        refine ⟨M, ds ++ [⟨K, k, M⟩], hle.2, by simp [HN.out]; omega, rfl, Lib.hid ?_, E', Lib.hid ?_⟩
        · unfold Ly.Own
          rw [List.length_append, List.length_singleton, HN.out, all_app, all_one]
          exact HO.out
        · exact (below2 (B.out.trans (B1.out.mono B.out.size)) (Nat.le_trans B.out.size B1.out.size) _ _).grown HG.out (Nat.le_trans B.out.size (below2 B1.out B1.out.size _ _).size) (fun g hg => (O.out.lt hg).1)
      case measure => simp [intOf]; omega
    · have E' : Hid (ds = tkF s 0) := Lib.hid (by rw [← E.out, tkF_end (by omega), List.append_nil])
      obtain ⟨p, cap, rfl⟩ := O.out.form
      go_wp2_with fail
      go_ret2
      exact ⟨p, cap, by rw [← E'.out]; rfl, by rw [← E'.out]; exact O.out, B.out⟩

end Go.Proofs.YtjmfjlffcopnnaaGreatDoor
