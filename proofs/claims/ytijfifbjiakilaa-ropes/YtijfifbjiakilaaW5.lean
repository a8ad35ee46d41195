/-
  The walk of join. Conditions: as the theorem's premises say.
-/
import Derived.Test.YtijfifbjiakilaaW4
namespace Go.Proofs.Ytijfifbjiakilaa
open Go.RowKit

theorem heap_setCell_at {w : World} {g i : Nat} {cur : Array Value} {e : TypeId} {fr : Nat × Nat} (h : w.heap[g]? = some (.cells cur e fr)) (u : Value) : (w.setCell ⟨g, i, none⟩ u).heap[g]? = some (.cells (cur.setIfInBounds i u) e fr) := by
  simp [World.setCell, Array.getElem?_modify, h]

theorem owns_setLast {w : World} {base : Nat} {e : TypeId} {g n cap : Nat} {xs : List Value} {u0 : Value} (h : w.ownsRow base e 1 (.slice (some ⟨g, 0, none⟩) (n + 1) cap) (n + 1) (xs ++ [u0])) (u : Value) :
    (w.setCell ⟨g, n, none⟩ u).ownsRow base e 1 (.slice (some ⟨g, 0, none⟩) (n + 1) cap) (n + 1) (xs ++ [u]) := by
  have hl : xs.length = n := by have := h.1; simp at this; omega
  refine ⟨by simp [hl], ?_⟩
  rcases h.2 with ⟨_, h0⟩ | ⟨g', cap', cur, hv, hb, hg, hnc, hm, hs, ht⟩
  · omega
  · simp only [Value.slice.injEq, Option.some.injEq, Addr.mk.injEq, and_true, true_and] at hv
    obtain ⟨rfl, rfl⟩ := hv
    refine .inr ⟨g, cap, _, rfl, hb, heap_setCell_at hg u, hnc, hm, by simpa using hs, ?_⟩
    rw [Array.toList_setIfInBounds, Nat.mul_one] at *
    rw [List.take_set, ht, ← hl]
    simp

theorem owns_frozen {w : World} {base : Nat} {e : TypeId} {g n cap : Nat} {xs : List Value} (h : w.ownsRow base e 1 (.slice (some ⟨g, 0, none⟩) (n + 1) cap) (n + 1) xs) (i : Nat) : w.frozen? ⟨g, i, none⟩ = false := by
  rcases h.2 with ⟨_, h0⟩ | ⟨g', cap', cur, hv, hb, hg, _⟩
  · omega
  · simp only [Value.slice.injEq, Option.some.injEq, Addr.mk.injEq, and_true, true_and] at hv
    obtain ⟨rfl, rfl⟩ := hv
    simp [World.frozen?, hg]

/-- What join holds when it has gone through the bytes 'done'. -/
def JoinSt (ok : Nat → Prop) (w wr : World) (v : Value) (done : List UInt8) : Prop :=
  ∃ ls xs, wr.ownsRow w.heap.size 65 1 v ls.length xs ∧ Chunks (fun b => ok b ∧ some b ≠ v.ownBlock) wr xs ls ∧ Small ls ∧ Tight ls ∧ ls.flatten = done ∧ Below w.heap.size w wr

theorem JoinSt.app {ok : Nat → Prop} {w wr w3 : World} {v u : Value} {xs : List Value} {ls : List (List UInt8)} {l : List UInt8} {g n cap : Nat} {o : Obj} (hown : wr.ownsRow w.heap.size 65 1 v ls.length xs) (hch : Chunks (fun b => ok b ∧ some b ≠ v.ownBlock) wr xs ls) (hs : Small ls) (ht : Tight ls) (hb : Below w.heap.size w wr)
    (hu : Chunk (fun b => ok b ∧ some b ≠ v.ownBlock) wr u l) (hl0 : 0 < l.length) (hl16 : l.length ≤ 16) (hfit : ∀ l0, ls.getLast? = some l0 → 16 < l0.length + l.length) (hn : n = ls.length + 1)
    (hown' : w3.ownsRow w.heap.size 65 1 (.slice (some ⟨g, 0, none⟩) n cap) n (xs ++ [u])) (hg : (wr.alloc o).grownBy w3 v.ownBlock) (hgg : v.ownBlock = some g ∨ g = wr.heap.size + 1) :
    JoinSt ok w w3 (.slice (some ⟨g, 0, none⟩) n cap) (ls.flatten ++ l) := by
  subst hn
  exact ⟨ls ++ [l], xs ++ [u], by rw [List.length_append]; exact hown', own_snoc hch hu hg hgg, hs.append (.single hl0 hl16), ht.snoc hfit, by simp,
    (hb.alloc hb.size o).grown hg (by simp; have := hb.size; omega) (fun k h => (hown.lt k h).1)⟩

theorem JoinSt.grow {ok : Nat → Prop} {w wr w2 : World} {u u0 : Value} {xs : List Value} {ls : List (List UInt8)} {l l0 : List UInt8} {g cap : Nat} (hown : wr.ownsRow w.heap.size 65 1 (.slice (some ⟨g, 0, none⟩) (ls.length + 1) cap) (ls.length + 1) (xs ++ [u0])) (hch : Chunks (fun b => ok b ∧ some b ≠ some g) wr (xs ++ [u0]) (ls ++ [l0])) (hs : Small (ls ++ [l0])) (ht : Tight (ls ++ [l0])) (hb : Below w.heap.size w wr)
    (hok : ∀ b, w.heap.size ≤ b → ok b) (hu : Chunk (fun b => wr.heap.size ≤ b) w2 u (l0 ++ l)) (h16 : l0.length + l.length ≤ 16) (hg : wr.grownBy w2 none) :
    JoinSt ok w (w2.setCell ⟨g, ls.length, none⟩ u) (.slice (some ⟨g, 0, none⟩) (ls.length + 1) cap) ((ls ++ [l0]).flatten ++ l) := by
  have hgl := hown.lt g rfl
  have ho2 := hown.kept hg (.inr (by simp [Value.ownBlock]))
  have hsz := hg.size
  have hx0 : xs.length = ls.length := by have := hch.1; simp at this; exact this
  have hcx : Chunks (fun b => ok b ∧ some b ≠ some g) wr xs ls := by
    have h1 := hch.take ls.length
    rwa [List.take_left, ← hx0, List.take_left] at h1
  have hl0 := (hs l0 (by simp)).1
  have hk : Keeps (fun b => ok b ∧ some b ≠ some g) w2 (w2.setCell ⟨g, ls.length, none⟩ u) := fun a x ha hc => by
    have hne : a.block ≠ g := fun e => ha.2 (by rw [e])
    exact (World.cell?_of_block (Below.heap_setCell w2 ⟨g, ls.length, none⟩ u a.block hne)).trans hc
  refine ⟨ls ++ [l0 ++ l], xs ++ [u], ?_, ?_, ?_, ht.grow, by simp, ?_⟩
  · rw [List.length_append]; exact owns_setLast ho2 u
  · refine Chunks.append ((hcx.kept (Keeps.of_grown hg (fun _ _ => by simp))).kept hk) (.single ?_)
    refine Chunk.kept (hu.mono fun b _ (h : wr.heap.size ≤ b) => ⟨hok b (Nat.le_trans hb.size h), fun e => ?_⟩) hk
    have e1 : b = g := by simpa [Value.ownBlock] using e
    have e2 : g < wr.heap.size := hgl.2
    omega
  · exact hs.left.append (.single (by rw [List.length_append]; omega) (by rw [List.length_append]; exact h16))
  · exact (hb.grown hg hb.size (fun k h => by cases h)).setCell hgl.1 u

def JoinPost (ok : Nat → Prop) (done : List UInt8) (w : World) (e : Ending) (w' : World) : Prop :=
  ∃ v ls, e = .returned v ∧ RowAt ok w' v ls ∧ Small ls ∧ Tight ls ∧ ls.flatten = done ∧ Below w.heap.size w w'

/-- The rows that are handed in. -/
def RowsAt (ok : Nat → Prop) (w : World) (rb : Nat) (rows : List (List (List UInt8))) : Prop :=
  ∀ (i : Nat) ls, rows[i]? = some ls → ∃ u, w.cell? ⟨rb, i, none⟩ = some u ∧ RowAt ok w u ls ∧ Small ls

set_option maxHeartbeats 1000000 in
theorem join_any (ok : Nat → Prop) (rb cap : Nat) (rows : List (List (List UInt8))) (w : World) (hrows : RowsAt ok w rb rows) (hn : rows.length ≤ 100) (hlen : rows.flatten.flatten.length ≤ 8192) (hok : ∀ b, w.heap.size ≤ b → ok b) :
    Calls Try.prog 24 #[.slice (some ⟨rb, 0, none⟩) rows.length cap] w (JoinPost ok rows.flatten.flatten w) := by
  obtain ⟨i0, hi, hz0, hz1, hz2⟩ := info_parts info65
  have R := Lib.hid hrows; have O := Lib.hid hok; have LN := Lib.hid hlen
  clear hrows hok hlen
  go_enter Try.func24, Try.ntmps24
  go_wp2
  go_loopw [3, 11] (fun v i wr => ∃ k : Nat, k ≤ rows.length ∧ i = .int .i64 k ∧ JoinSt ok w wr v (rows.take k).flatten.flatten) (fun _ i _ => rows.length - (intOf i).toNat)
  case atStart => exact ⟨0, Nat.zero_le _, rfl, [], [], World.ownsRow_nil _ _ _ _, Chunks.nil _ _, small_nil, tight_nil, rfl, Below.refl _ _⟩
  case round =>
    obtain ⟨k, hk, rfl, hst⟩ := hrel
    have ST := Lib.hid hst; clear hst
    by_cases hlt : k < rows.length
    · obtain ⟨rv, hcell, hrow, hsm⟩ := R.out k rows[k] (List.getElem?_eq_getElem hlt)
      generalize hrk : rows[k] = row at *
      have hbl : Below w.heap.size w wr := by obtain ⟨_, _, _, _, _, _, _, h⟩ := ST.out; exact h
      have hcell' : wr.cell? ⟨rb, k, none⟩ = some rv := cell_later hbl hcell
      clear hcell
      have ROW := Lib.hid hrow; have SM := Lib.hid hsm
      obtain ⟨p, rcap, rfl⟩ := hrow.form
      have RK := Lib.hid hrk
      have hrl : row.length ≤ 8192 := by
        have h1 := rows_le (j := row.length) hlt hrk
        have h2 := hsm.length
        have h3 := LN.out
        rw [List.take_of_length_le (Nat.le_refl _), List.length_append] at h1
        omega
      clear hrow hsm hrk
      go_wp2
      go_loopw [3, 17] (fun v i wj => ∃ j : Nat, j ≤ row.length ∧ i = .int .i64 j ∧ JoinSt ok w wj v ((rows.take k).flatten.flatten ++ (row.take j).flatten)) (fun _ i _ => row.length - (intOf i).toNat)
      case atStart => exact ⟨0, Nat.zero_le _, rfl, by simpa using ST.out⟩
      case round =>
        clear ST hbl hcell'
        obtain ⟨j, hj, rfl, hst⟩ := hrel
        have hle := rows_le (j := j) hlt RK.out
        have hL := LN.out
        have ST := Lib.hid hst
        obtain ⟨ls, xs, hown, hch, hsm, hti, hfl, hbl⟩ := hst
        have hll : ls.length ≤ 8192 := by have := hsm.length; rw [hfl] at this; omega
        have OWN := Lib.hid hown; have CH := Lib.hid hch; have S := Lib.hid hsm; have T := Lib.hid hti; have F := Lib.hid hfl
        clear hown hch hsm hti hfl hle hL
        have hsz := hbl.size
        by_cases hjl : j < row.length
        · obtain ⟨b, o, hp, b1, o1, c1, l, hrj, hcx, hchl, hl0, hl16⟩ : ∃ b o, p = some ⟨b, o, none⟩ ∧ ∃ b1 o1 c1 l, Hid (row[j] = l) ∧ wr.cell? ⟨b, o + j, none⟩ = some (.slice (some ⟨b1, o1, none⟩) l.length c1) ∧ Hid (Chunk (fun b => ok b ∧ b < w.heap.size) wr (.slice (some ⟨b1, o1, none⟩) l.length c1) l) ∧ 0 < l.length ∧ l.length ≤ 16 := by
            rcases ROW.out with ⟨hv, he⟩ | ⟨b, o, rc, ys, hv, _, _, hy, hk2⟩
            · rw [he] at hjl; simp at hjl
            · have hjy : j < ys.length := by rw [hk2.1]; exact hjl
              have hc := hk2.2 j ys[j] row[j] (List.getElem?_eq_getElem hjy) (List.getElem?_eq_getElem hjl)
              have hc' : Chunk (fun b => ok b ∧ b < w.heap.size) w ys[j] row[j] := hc.mono fun b hb h => ⟨h, hb⟩
              have hc2 := hc'.kept (Keeps.of_below hbl)
              obtain ⟨b1, o1, c1, hu, _⟩ := hc
              have hcell := cell_later hbl (hy j ys[j] (List.getElem?_eq_getElem hjy))
              have hs16 := SM.out row[j] (List.getElem_mem hjl)
              rw [hu] at hcell hc2
              cases hv
              exact ⟨b, o, rfl, b1, o1, c1, _, Lib.hid rfl, hcell, Lib.hid hc2, hs16.1, hs16.2⟩
          subst hp
          have hchl' : Hid (Chunk (fun b => ok b ∧ some b ≠ u3.ownBlock) wr (.slice (some ⟨b1, o1, none⟩) l.length c1) l) := Lib.hid (hchl.out.mono fun b _ h => ⟨h.1, fun e => by have := (OWN.out.lt b e.symm).1; omega⟩)
          have hown1 := OWN.out
          by_cases hls : ls = []
          · subst hls
            obtain ⟨p3, cap3, rfl⟩ : ∃ p3 cap3, u3 = .slice p3 0 cap3 := by
              rcases OWN.out.2 with ⟨h, _⟩ | ⟨g, cap3, _, h, _⟩
              · exact ⟨_, _, h⟩
              · exact ⟨_, _, h⟩
            go_wp2_with (at_builtin; refine wpList_append_lies _ rfl _ _ 52 rfl w.heap.size 65 i0 (.slice none 0 0) 1 24 Try.underlying52 hi hz0 hz1 hz2 rfl (by decide) (.slice p3 0 cap3) 0 _ rfl (hown1.alloc _) ⟨wr.heap.size, 0, none⟩ 1 1 [_] rfl rfl (cell_one_new _ _ _) (fun x hx => by simp at hx; subst hx; rfl) (by decide) (by unfold maxLen; omega) (by omega) (by simp; omega) (wr.heap.size + 1) (by simp) ?_; intro g cap4 w3 hown' hgrow hgg hlt3)
            go_roundw
            case rel => exact ⟨j + 1, by omega, by go_num, by rw [row_step hjl hrj.out, ← List.append_assoc, ← F.out]; exact JoinSt.app OWN.out CH.out S.out T.out hbl hchl'.out hl0 hl16 (fun _ h => by cases h) rfl hown' hgrow hgg⟩
            case measure => simp [intOf]; omega
          · obtain ⟨ls0, l0, rfl⟩ := snoc_of_pos hls
            obtain ⟨g, cap3, rfl⟩ : ∃ g cap3, u3 = .slice (some ⟨g, 0, none⟩) (ls0.length + 1) cap3 := by
              rcases OWN.out.2 with ⟨_, h⟩ | ⟨g, cap3, _, h, _⟩
              · simp at h
              · exact ⟨g, cap3, by simpa using h⟩
            obtain ⟨xs0, u0, rfl⟩ := snoc_of_pos (ls := xs) (fun h => by have := CH.out.1; rw [h] at this; simp at this)
            have hx0 : xs0.length = ls0.length := by have := CH.out.1; simp at this; exact this
            have hchu0 : Hid (Chunk (fun b => ok b ∧ some b ≠ some g) wr u0 l0) := Lib.hid (CH.out.2 ls0.length u0 l0 (by rw [← hx0]; simp) (by simp))
            obtain ⟨b0, o0, c0, rfl, -⟩ := hchu0.out
            have hc0 : wr.cell? ⟨g, ls0.length, none⟩ = some (.slice (some ⟨b0, o0, none⟩) l0.length c0) := by
              have := OWN.out.cells (g := g) rfl ls0.length (.slice (some ⟨b0, o0, none⟩) l0.length c0) (by rw [← hx0]; simp)
              rwa [add_plain, Nat.zero_add] at this
            have hl0s := S.out l0 (by simp)
            have hll2 : ls0.length ≤ 8192 := by simp at hll; omega
            rw [List.length_append, List.length_singleton] at hown1
            clear hx0 hls hll
            by_cases h16 : 16 < l0.length + l.length
            · go_wp2_with (at_builtin; refine wpList_append_lies _ rfl _ _ 52 rfl w.heap.size 65 i0 (.slice none 0 0) 1 24 Try.underlying52 hi hz0 hz1 hz2 rfl (by decide) (.slice (some ⟨g, 0, none⟩) (ls0.length + 1) cap3) (ls0.length + 1) _ rfl (hown1.alloc _) ⟨wr.heap.size, 0, none⟩ 1 1 [_] rfl rfl (cell_one_new _ _ _) (fun x hx => by simp at hx; subst hx; rfl) (by decide) (by unfold maxLen; omega) (by omega) (by simp; omega) (wr.heap.size + 1) (by simp) ?_; intro g4 cap4 w3 hown' hgrow hgg hlt3)
              go_roundw
              case rel => exact ⟨j + 1, by omega, by go_num, by rw [row_step hjl hrj.out, ← List.append_assoc, ← F.out]; exact JoinSt.app OWN.out CH.out S.out T.out hbl hchl'.out hl0 hl16 (fun l' h => by simp at h; subst h; exact h16) (by simp) hown' hgrow hgg⟩
              case measure => simp [intOf]; omega
            · go_wp2_with (go_at_call 29; refine (grow_any (fun _ => True) _ _ _ l0 l (hchu0.out.mono fun _ _ _ => trivial) (hchl.out.mono fun _ _ _ => trivial) (by omega)).mono ?_; rintro e w2 ⟨v2, rfl, hnew, hg2⟩; obtain ⟨b2, o2, c2, hv2, -⟩ := id hnew; subst hv2; have NEW := Lib.hid hnew; clear hnew; have hc2 := hg2.cell hc0 (by simp); have hf2 := owns_frozen (hown1.kept hg2 (.inr (by simp [Value.ownBlock]))) ls0.length)
              go_roundw
              case rel =>
                refine ⟨j + 1, by omega, by go_num, ?_⟩
                rw [row_step hjl hrj.out, ← List.append_assoc, ← F.out]
                have hN := NEW.out
                rw [List.length_append] at hN
                exact JoinSt.grow hown1 CH.out S.out T.out hbl O.out hN (by omega) hg2
              case measure => simp [intOf]; omega
        · go_wp2
          go_roundw
          case rel => exact ⟨k + 1, by omega, by go_num, by rw [rows_step hlt RK.out]; have := ST.out; rwa [List.take_of_length_le (l := row) (by omega)] at this⟩
          case measure => simp [intOf]; omega
    · go_wp2
      go_ret
      obtain ⟨ls, xs, ho, hch, hsm, hti, hfl, hb⟩ := ST.out
      rw [List.take_of_length_le (by omega)] at hfl
      exact ⟨_, ls, rfl, RowAt.of_owns ho (hch.mono fun b _ h => h.1) (fun g hg _ => O.out g hg), hsm, hti, hfl, hb⟩

end Go.Proofs.Ytijfifbjiakilaa
