/-
  Walks of Chunks and of SpoilInts; Insert and Delete at whatever they are handed. Conditions: as each theorem's premises say.
-/
import Derived.Test.YtijfifbjiakilaaW9
namespace Go.Proofs.Ytijfifbjiakilaa
open Go.RowKit

theorem info3 : (Try.prog.info? 3).map (fun i => (i.zero, i.size, i.bytes)) = some (some (.int .i64 0), 1, 8) := by kernel_rfl

/-- The chunks' lengths, as values. -/
def lenCells (ls : List (List UInt8)) : List Value := ls.map fun l => Value.int .i64 (l.length : Int)
theorem lenCells_length (ls : List (List UInt8)) : (lenCells ls).length = ls.length := by simp [lenCells]

def ChunksPost (t : List UInt8) (w : World) (e : Ending) (w' : World) : Prop :=
  ∃ v ls, e = .returned v ∧ Small ls ∧ Tight ls ∧ ls.flatten = t ∧ w'.ownsRow w.heap.size 3 1 v ls.length (lenCells ls) ∧ Below w.heap.size w w'

set_option maxHeartbeats 1000000 in
theorem chunks_any (r : Nat) (t : List UInt8) (w : World) (h : Rope w r t) : Calls Try.prog 19 #[.pointer (some ⟨r, 0, none⟩)] w (ChunksPost t w) := by
  obtain ⟨i0, hi, hz0, hz1, hz2⟩ := info_parts info3
  obtain ⟨hl, ls, ⟨v, h0, h1, f0, f1, hr⟩, hsm, hti, hfl⟩ := h
  have hll : ls.length ≤ 4096 := by have := hsm.length; rw [hfl] at this; omega
  have ROW := Lib.hid hr; have SM := Lib.hid hsm; have TI := Lib.hid hti; have FL := Lib.hid hfl
  obtain ⟨p, cap, rfl⟩ := hr.form
  clear hr hsm hti hfl h1 f0 f1
  go_enter Try.func19, Try.ntmps19
  go_wp2
  go_loopw [3, 13] (fun u i wr => ∃ k : Nat, k ≤ ls.length ∧ i = .int .i64 k ∧ wr.ownsRow w.heap.size 3 1 u k (lenCells (ls.take k)) ∧ Below w.heap.size w wr) (fun _ i _ => ls.length - (intOf i).toNat)
  case atStart => exact ⟨0, Nat.zero_le _, rfl, World.ownsRow_nil _ _ _ _, Below.refl _ _⟩
  case round =>
    obtain ⟨k, hk, rfl, hown, hbl⟩ := hrel
    have hsz := hbl.size
    have OWN := Lib.hid hown; clear hown
    by_cases hlt : k < ls.length
    · obtain ⟨b, o, hp, b1, o1, c1, l, hlk, hcx⟩ : ∃ b o, p = some ⟨b, o, none⟩ ∧ ∃ b1 o1 c1 l, Hid (ls[k] = l) ∧ wr.cell? ⟨b, o + k, none⟩ = some (.slice (some ⟨b1, o1, none⟩) l.length c1) := by
        rcases ROW.out with ⟨_, he⟩ | ⟨b, o, rc, ys, hv, _, _, hy, hk2⟩
        · rw [he] at hlt; simp at hlt
        · have hky : k < ys.length := by rw [hk2.1]; exact hlt
          obtain ⟨b1, o1, c1, hu, _⟩ := hk2.2 k ys[k] ls[k] (List.getElem?_eq_getElem hky) (List.getElem?_eq_getElem hlt)
          have hc := cell_later hbl (hy k ys[k] (List.getElem?_eq_getElem hky))
          rw [hu] at hc
          cases hv
          exact ⟨b, o, rfl, b1, o1, c1, _, Lib.hid rfl, hc⟩
      subst hp
      have hown1 := OWN.out
      go_wp2_with (at_builtin; refine wpList_append_own _ rfl _ _ 46 rfl w.heap.size 3 i0 (.int .i64 0) 1 8 Try.underlying46 hi hz0 hz1 hz2 rfl (by decide) u3 k _ rfl (hown1.alloc _) ⟨wr.heap.size, 0, none⟩ 1 1 [_] rfl rfl (cell_one_new _ _ _) (fun x hx => by simp at hx; subst hx; rfl) (by unfold maxLen; omega) (by omega) (by simp; omega) ?_; intro v' w3 hown' hgrow hnil)
      go_roundw
      case rel =>
        refine ⟨k + 1, by omega, by go_num, ?_, (hbl.alloc hsz _).grown hgrow (by simp; omega) (fun q hq => (OWN.out.lt q hq).1)⟩
        have e : lenCells (ls.take (k + 1)) = lenCells (ls.take k) ++ [.int .i64 (l.length : Int)] := by
          rw [List.take_succ_eq_append_getElem hlt, hlk.out]; simp [lenCells]
        rw [e]
        exact hown'
      case measure => simp [intOf]; omega
    · go_wp2
      go_ret
      have hk' : k = ls.length := by omega
      have ho := OWN.out
      rw [hk', List.take_of_length_le (Nat.le_refl _)] at ho
      exact ⟨_, ls, rfl, SM.out, TI.out, FL.out, ho, hbl⟩

theorem owns_setAt {w : World} {base : Nat} {e : TypeId} {g n cap i : Nat} {xs : List Value} (h : w.ownsRow base e 1 (.slice (some ⟨g, 0, none⟩) n cap) n xs) (u : Value) :
    (w.setCell ⟨g, i, none⟩ u).ownsRow base e 1 (.slice (some ⟨g, 0, none⟩) n cap) n (xs.set i u) := by
  have hl : xs.length = n := by have := h.1; omega
  refine ⟨by simp [hl], ?_⟩
  rcases h.2 with ⟨h0, _⟩ | ⟨g', cap', cur, hv, hb, hg, hnc, hm, hs, ht⟩
  · cases h0
  · simp only [Value.slice.injEq, Option.some.injEq, Addr.mk.injEq, and_true, true_and] at hv
    obtain ⟨rfl, rfl⟩ := hv
    refine .inr ⟨g, cap, _, rfl, hb, heap_setCell_at hg u, hnc, hm, by simpa using hs, ?_⟩
    rw [Array.toList_setIfInBounds, List.take_set, ht]

theorem owns_frozenAt {w : World} {base : Nat} {e : TypeId} {g n cap : Nat} {xs : List Value} (h : w.ownsRow base e 1 (.slice (some ⟨g, 0, none⟩) n cap) n xs) (i : Nat) : w.frozen? ⟨g, i, none⟩ = false := by
  rcases h.2 with ⟨h0, _⟩ | ⟨g', cap', cur, hv, hb, hg, _⟩
  · cases h0
  · simp only [Value.slice.injEq, Option.some.injEq, Addr.mk.injEq, and_true, true_and] at hv
    obtain ⟨rfl, rfl⟩ := hv
    simp [World.frozen?, hg]

def Ints (xs : List Value) : Prop := ∀ (i : Nat) u, xs[i]? = some u → ∃ z, u = .int .i64 z

theorem lenCells_ints (ls : List (List UInt8)) : Ints (lenCells ls) := fun i u h => by
  simp only [lenCells, List.getElem?_map] at h
  obtain ⟨l, _, rfl⟩ := Option.map_eq_some_iff.1 h
  exact ⟨_, rfl⟩

theorem Ints.set {xs : List Value} (h : Ints xs) (i : Nat) (z : Int) : Ints (xs.set i (.int .i64 z)) := fun j u hu => by
  rw [List.getElem?_set] at hu
  split at hu
  · split at hu
    · cases hu; exact ⟨_, rfl⟩
    · cases hu
  · exact h j u hu

set_option maxHeartbeats 1000000 in
theorem spoil_any (base n : Nat) (v : Value) (xs : List Value) (w : World) (hown : w.ownsRow base 3 1 v n xs) (hx : Ints xs) (hn : n ≤ 4096) :
    Calls Try.prog 20 #[v] w fun e w' => e = .returned (.tuple #[]) ∧ w.grownBy w' v.ownBlock := by
  obtain ⟨p, cap, rfl⟩ : ∃ p cap, v = .slice p n cap := by
    rcases hown.2 with ⟨h, rfl⟩ | ⟨g, cap, _, h, _⟩
    · exact ⟨_, _, h⟩
    · exact ⟨_, _, h⟩
  have OWN := Lib.hid hown; have X := Lib.hid hx
  clear hown hx
  go_enter Try.func20, Try.ntmps20
  go_wp2
  go_loopw [2] (fun i wr => ∃ (k : Nat) (ys : List Value), k ≤ n ∧ i = .int .i64 k ∧ Hid (wr.ownsRow base 3 1 (.slice p n cap) n ys) ∧ Hid (Ints ys) ∧ Hid (w.grownBy wr (Value.slice p n cap).ownBlock)) (fun i _ => n - (intOf i).toNat)
  case atStart => exact ⟨0, xs, Nat.zero_le _, rfl, OWN, X, Lib.hid (grown_refl _ _)⟩
  case round =>
    obtain ⟨k, ys, hk, rfl, O, Y, G⟩ := hrel
    clear OWN X
    by_cases hlt : k < n
    · obtain ⟨g, hp⟩ : ∃ g, p = some ⟨g, 0, none⟩ := by
        rcases O.out.2 with ⟨h, rfl⟩ | ⟨g, _, _, h, _⟩
        · omega
        · cases h; exact ⟨_, rfl⟩
      subst hp
      have hyl : k < ys.length := by have := O.out.1; omega
      obtain ⟨z, hz⟩ := Y.out k ys[k] (List.getElem?_eq_getElem hyl)
      have hc : wr.cell? ⟨g, k, none⟩ = some (.int .i64 z) := by
        have := O.out.cells (g := g) rfl k ys[k] (List.getElem?_eq_getElem hyl)
        rwa [add_plain, Nat.zero_add, hz] at this
      have hf := owns_frozenAt O.out k
      clear hz hyl
      go_wp2
      go_roundw
      case rel =>
        refine ⟨k + 1, ys.set k (.int .i64 _), by omega, by go_num, Lib.hid (owns_setAt O.out _), Lib.hid (Y.out.set k _), Lib.hid ?_⟩
        have g := G.out
        exact ⟨g.os, g.tape, g.output, by simpa [World.setCell] using g.size, fun q hq hne => (Below.heap_setCell _ _ _ q (fun e => hne (by rw [e]; rfl))).trans (g.block q hq hne)⟩
      case measure => simp [intOf]; omega
    · go_wp2
      go_end0
      exact ⟨rfl, G.out⟩

/-- Whatever is asked of Insert or Delete: a rope is there behind it. -/
def AnyPost (r : Nat) (w : World) (e : Ending) (w' : World) : Prop := ∃ (c : Int) (t : List UInt8), e = .returned (.int .i64 c) ∧ Rope w' r t ∧ w.grownBy w' (some r)

theorem insert_every (r : Nat) (t : List UInt8) (n : Int) (s : ByteArray) (w : World) (h : Rope w r t) : Calls Try.prog 10 #[.pointer (some ⟨r, 0, none⟩), .int .i64 n, .string s] w (AnyPost r w) := by
  by_cases hn : 0 ≤ n ∧ n ≤ (t.length : Int)
  · by_cases hl : 4096 < t.length + s.size
    · refine (insert_long r t n s w h hn hl).mono ?_
      rintro e w' ⟨rfl, rfl⟩
      exact ⟨_, t, rfl, h, grown_refl _ _⟩
    · obtain ⟨m, rfl⟩ := Int.eq_ofNat_of_zero_le hn.1
      refine (insert_in r t _ m s w h (by omega) (by omega) rfl).mono ?_
      rintro e w' ⟨rfl, hr, hg⟩
      exact ⟨_, _, rfl, hr, hg⟩
  · refine (insert_there_no r t n s w h hn).mono ?_
    rintro e w' ⟨rfl, rfl⟩
    exact ⟨_, t, rfl, h, grown_refl _ _⟩

theorem delete_every (r : Nat) (t : List UInt8) (n k : Int) (w : World) (h : Rope w r t) : Calls Try.prog 11 #[.pointer (some ⟨r, 0, none⟩), .int .i64 n, .int .i64 k] w (AnyPost r w) := by
  by_cases hn : 0 ≤ n ∧ n ≤ (t.length : Int) ∧ 0 ≤ k ∧ k ≤ (t.length : Int) - n
  · obtain ⟨m, rfl⟩ := Int.eq_ofNat_of_zero_le hn.1
    obtain ⟨q, rfl⟩ := Int.eq_ofNat_of_zero_le hn.2.2.1
    refine (delete_in r t _ m q w h (by omega) rfl).mono ?_
    rintro e w' ⟨rfl, hr, hg⟩
    exact ⟨_, _, rfl, hr, hg⟩
  · refine (delete_no r t n k w h hn).mono ?_
    rintro e w' ⟨rfl, rfl⟩
    exact ⟨_, t, rfl, h, grown_refl _ _⟩

theorem owns_form {w : World} {base : Nat} {e : TypeId} {size n : Nat} {v : Value} {xs : List Value} (h : w.ownsRow base e size v n xs) : ∃ p cap, v = .slice p n cap := by
  rcases h.2 with ⟨h', rfl⟩ | ⟨g, cap, _, h', _⟩
  · exact ⟨_, _, h'⟩
  · exact ⟨_, _, h'⟩

end Go.Proofs.Ytijfifbjiakilaa
