/-
  The walk of Place. Conditions: as each theorem's premises say.
-/
import Derived.Test.YtijfifbjiakilaaW7
namespace Go.Proofs.Ytijfifbjiakilaa
open Go.RowKit

/-- What Place answers: the place of a line and a column, if there is one. -/
def PlacePost (t : List UInt8) (L C : Int) (w : World) (e : Ending) (w' : World) : Prop :=
  Below w.heap.size w w' ∧ ((∃ n : Nat, n ≤ t.length ∧ (lineOf (t.take n) : Int) = L ∧ (colOf (t.take n) : Int) = C ∧ e = .returned (.tuple #[.int .i64 (n : Int), .int .i64 0])) ∨
    ((∀ n : Nat, n ≤ t.length → ¬ ((lineOf (t.take n) : Int) = L ∧ (colOf (t.take n) : Int) = C)) ∧ e = .returned (.tuple #[.int .i64 0, .int .i64 100])))

set_option maxHeartbeats 400000 in
theorem place_neg (r : Nat) (t : List UInt8) (L C : Int) (w : World) (hn : L < 0 ∨ C < 0) :
    Calls Try.prog 15 #[.pointer (some ⟨r, 0, none⟩), .int .i64 L, .int .i64 C] w (PlacePost t L C w) := by
  have fin : Hid (PlacePost t L C w (.returned (.tuple #[.int .i64 0, .int .i64 100])) w) := Lib.hid ⟨Below.refl _ _, .inr ⟨fun n _ h => by omega, rfl⟩⟩
  by_cases h1 : L < 0
  · clear hn
    go_enter Try.func15, Try.ntmps15
    go_wp2
    go_ret2
    exact fin.out
  · have h2 : C < 0 := by omega
    clear hn
    go_enter Try.func15, Try.ntmps15
    go_wp2
    go_ret2
    exact fin.out

theorem place_yes {t : List UInt8} {k d L C : Nat} {w w' : World} {m : Int} (h : AtLine t k d) (hk : k = L) (hc : d + C ≤ t.length) (hn : ∀ x ∈ (t.drop d).take C, x ≠ 10) (hb : Below w.heap.size w w') (hm : m = ((d + C : Nat) : Int)) :
    PlacePost t L C w (.returned (.tuple #[.int .i64 m, .int .i64 0])) w' := by
  have ht := h.there hc hn
  subst hk
  exact ⟨hb, .inl ⟨d + C, hc, by rw [ht.1], by rw [ht.2], by rw [hm]⟩⟩

theorem place_none {t : List UInt8} {k d m L C : Nat} {w w' : World} (h : AtLine t k d) (hk : k = L) (hm : d + m = t.length ∨ (t.drop d)[m]? = some 10) (hn : ∀ x ∈ (t.drop d).take m, x ≠ 10) (hle : d + m ≤ t.length) (hC : m < C) (hb : Below w.heap.size w w') :
    PlacePost t L C w (.returned (.tuple #[.int .i64 0, .int .i64 100])) w' := by
  subst hk
  refine ⟨hb, .inr ⟨fun n hn' h2 => ?_, rfl⟩⟩
  have hw := h.within hm hn' (by omega)
  have ht := h.there (c := n - d) (by omega) (fun x hx => hn x (by
    rw [List.mem_iff_getElem?] at hx ⊢
    obtain ⟨j, hj⟩ := hx
    rw [List.getElem?_take] at hj
    split at hj
    · exact ⟨j, by rw [List.getElem?_take, if_pos (by omega)]; exact hj⟩
    · cases hj))
  rw [show d + (n - d) = n by omega] at ht
  omega

set_option maxHeartbeats 1000000 in
theorem place_pos (r : Nat) (t : List UInt8) (L C : Nat) (w : World) (h : Rope w r t) :
    Calls Try.prog 15 #[.pointer (some ⟨r, 0, none⟩), .int .i64 L, .int .i64 C] w (PlacePost t L C w) := by
  have hl := h.1
  have R := Lib.hid h
  obtain ⟨_, ls, ⟨v, h0, h1, f0, f1, hr⟩, hsm, hti, hfl⟩ := h
  rw [hfl] at h1
  have H1 := Lib.hid h1
  clear hfl hr hsm hti h0 f0 f1 h1
  go_enter Try.func15, Try.ntmps15
  go_wp2_with (go_at_call 18; refine (Text_any r t _ R.out).mono ?_; rintro e w1 ⟨rfl, hb1⟩)
  have B1 := Lib.hid hb1
  clear hb1
  go_loopw [8, 26] (fun s i wr => ∃ (k d : Nat) (S : ByteArray), s = .string S ∧ i = .int .i64 k ∧ k ≤ L ∧ Hid (S.data.toList = t.drop d) ∧ Hid (AtLine t k d) ∧ Below w.heap.size w wr) (fun _ i _ => L - (intOf i).toNat)
  case atStart => exact ⟨0, 0, _, rfl, rfl, Nat.zero_le _, Lib.hid rfl, Lib.hid (AtLine.start t), B1.out⟩
  case round =>
    clear B1
    obtain ⟨k, d, S, rfl, rfl, hk, HS, AL, hbl⟩ := hrel
    have hk4 := AL.out.le4
    have hd := AL.out.le
    have hsz : S.size = t.length - d := by rw [← size_toList, HS.out, List.length_drop]
    have SZ := Lib.hid hsz
    have hsz4 : S.size ≤ 4096 := by omega
    clear hsz
    by_cases hlt : k < L
    · rcases index_spec S.data.toList with ⟨hi, hno⟩ | ⟨i, hi, he, hx, hno⟩
      · have I := Lib.hid hi; have NO := Lib.hid hno
        clear hi hno
        go_wp2_with (go_at_call 28; refine (cut10_miss S _ I.out).mono ?_; rintro e w2 ⟨rfl, rfl⟩)
        go_ret2
        refine ⟨hbl, .inr ⟨fun n _ h => ?_, rfl⟩⟩
        have hno := NO.out
        rw [HS.out] at hno
        have := AL.out.last hno n
        omega
      · have I := Lib.hid he; have NO := Lib.hid hno; have X := Lib.hid hx
        rw [size_toList] at hi
        clear he hno hx
        go_wp2_with (go_at_call 28; refine (cut10_found S i _ I.out hi hsz4).mono ?_; rintro e w2 ⟨rfl, hb2⟩)
        have B2 : Below w.heap.size w w2 := hbl.trans (hb2.mono hbl.size)
        go_roundw
        case rel =>
          have hx := X.out; have hno := NO.out
          rw [HS.out] at hx hno
          refine ⟨k + 1, d + (i + 1), _, rfl, by go_num, by omega, Lib.hid ?_, Lib.hid (AL.out.next (by rw [← HS.out, size_toList]; exact hi) hx hno), B2⟩
          rw [ext_drop, HS.out, List.drop_drop]
        case measure => simp [intOf]; omega
    · have hkL : k = L := by omega
      have KL := Lib.hid hkL
      clear hkL
      have h1 : wr.cell? ⟨r, 1, none⟩ = some (.int .i64 (t.length : Int)) := cell_later hbl H1.out
      rcases index_spec S.data.toList with ⟨hi, hno⟩ | ⟨i, hi, he, hx, hno⟩
      · have I := Lib.hid hi; have NO := Lib.hid hno
        clear hi hno
        by_cases hC : C ≤ S.size
        · go_wp2_with (go_at_call 28; refine (cut10_miss S _ I.out).mono ?_; rintro e w2 ⟨rfl, rfl⟩)
          go_ret2
          have hno := NO.out; have hz := SZ.out
          rw [HS.out] at hno
          exact place_yes AL.out KL.out (by omega) (fun x hx => hno x (List.mem_of_mem_take hx)) hbl (by omega)
        · go_wp2_with (go_at_call 28; refine (cut10_miss S _ I.out).mono ?_; rintro e w2 ⟨rfl, rfl⟩)
          go_ret2
          have hno := NO.out; have hz := SZ.out
          rw [HS.out] at hno
          exact place_none (m := S.size) AL.out KL.out (.inl (by omega)) (fun x hx => hno x (List.mem_of_mem_take hx)) (by omega) (by omega) hbl
      · have I := Lib.hid he; have NO := Lib.hid hno; have X := Lib.hid hx
        rw [size_toList] at hi
        clear he hno hx
        by_cases hC : C ≤ i
        · go_wp2_with (go_at_call 28; refine (cut10_found S i _ I.out hi hsz4).mono ?_; rintro e w2 ⟨rfl, hb2⟩; have h2 := cell_later hb2 h1)
          go_ret2
          have hno := NO.out; have hz := SZ.out
          rw [HS.out] at hno
          exact place_yes AL.out KL.out (by omega) (fun x hx => hno x (by
            rw [List.mem_iff_getElem?] at hx ⊢
            obtain ⟨j, hj⟩ := hx
            rw [List.getElem?_take] at hj
            split at hj
            · exact ⟨j, by rw [List.getElem?_take, if_pos (by omega)]; exact hj⟩
            · cases hj)) (hbl.trans (hb2.mono hbl.size)) (by omega)
        · go_wp2_with (go_at_call 28; refine (cut10_found S i _ I.out hi hsz4).mono ?_; rintro e w2 ⟨rfl, hb2⟩)
          go_ret2
          have hno := NO.out; have hz := SZ.out; have hx := X.out
          rw [HS.out] at hno hx
          exact place_none (m := i) AL.out KL.out (.inr hx) hno (by omega) (by omega) (hbl.trans (hb2.mono hbl.size))

theorem place_any (r : Nat) (t : List UInt8) (L C : Int) (w : World) (h : Rope w r t) :
    Calls Try.prog 15 #[.pointer (some ⟨r, 0, none⟩), .int .i64 L, .int .i64 C] w (PlacePost t L C w) := by
  by_cases hn : L < 0 ∨ C < 0
  · exact place_neg r t L C w hn
  · obtain ⟨l, rfl⟩ := Int.eq_ofNat_of_zero_le (by omega : 0 ≤ L)
    obtain ⟨c, rfl⟩ := Int.eq_ofNat_of_zero_le (by omega : 0 ≤ C)
    exact place_pos r t l c w h

end Go.Proofs.Ytijfifbjiakilaa
