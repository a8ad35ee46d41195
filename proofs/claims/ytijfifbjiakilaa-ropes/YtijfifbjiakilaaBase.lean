/-
  What a rope, a row of chunks and a chunk are in memory; what of it stays when other memory turns. No condition.
-/
import Derived.WalkKit
import Derived.WalkSpells
import Derived.WalkLawsBesides
namespace Go.Proofs.Ytijfifbjiakilaa
open Go.RowKit

/-- v is a slice of the bytes l, of one at least, in a block that 'ok' lets. -/
def Chunk (ok : Nat → Prop) (w : World) (v : Value) (l : List UInt8) : Prop :=
  ∃ b o cap, v = .slice (some ⟨b, o, none⟩) l.length cap ∧ ok b ∧ 0 < l.length ∧ l.length ≤ cap ∧ ∀ (i : Nat) x, l[i]? = some x → w.cell? ⟨b, o + i, none⟩ = some (.int .u8 (x.toNat : Int))

/-- The values xs are chunks of the texts ls, one by one. -/
def Chunks (ok : Nat → Prop) (w : World) (xs : List Value) (ls : List (List UInt8)) : Prop :=
  xs.length = ls.length ∧ ∀ (i : Nat) u l, xs[i]? = some u → ls[i]? = some l → Chunk ok w u l

/-- v is a slice of chunks of the texts ls. -/
def RowAt (ok : Nat → Prop) (w : World) (v : Value) (ls : List (List UInt8)) : Prop :=
  (v = .slice none 0 0 ∧ ls = []) ∨
  ∃ b o cap xs, v = .slice (some ⟨b, o, none⟩) ls.length cap ∧ ok b ∧ ls.length ≤ cap ∧ (∀ (i : Nat) u, xs[i]? = some u → w.cell? ⟨b, o + i, none⟩ = some u) ∧ Chunks ok w xs ls

/-- Every cell that lies in a block that ok lets is in w' as it was in w. -/
def Keeps (ok : Nat → Prop) (w w' : World) : Prop := ∀ (a : Addr) u, ok a.block → w.cell? a = some u → w'.cell? a = some u

theorem Keeps.of_grown {ok : Nat → Prop} {w w' : World} {row : Option Nat} (hg : w.grownBy w' row) (hne : ∀ b, ok b → some b ≠ row) : Keeps ok w w' :=
  fun a _ ha hc => hg.cell hc (hne a.block ha)

theorem Keeps.of_below {ok : Nat → Prop} {w w' : World} (hb : Below w.heap.size w w') : Keeps ok w w' :=
  fun a _ _ hc => (hb.cell (World.block_lt_of_cell? w a hc)).trans hc

theorem Keeps.of_belowB {ok : Nat → Prop} {B : Nat} {w w' : World} (hb : Below B w w') (hB : ∀ b, ok b → b < B) : Keeps ok w w' :=
  fun _ _ ha hc => (hb.cell (hB _ ha)).trans hc

theorem Keeps.trans {ok : Nat → Prop} {a b c : World} (h : Keeps ok a b) (k : Keeps ok b c) : Keeps ok a c := fun p u hp hc => k p u hp (h p u hp hc)

theorem Keeps.of_imp {ok ok' : Nat → Prop} {w w' : World} (h : Keeps ok w w') (k : ∀ b, ok' b → ok b) : Keeps ok' w w' := fun a u ha hc => h a u (k _ ha) hc

theorem Chunk.kept {ok : Nat → Prop} {w w' : World} {v : Value} {l : List UInt8} (h : Chunk ok w v l) (k : Keeps ok w w') : Chunk ok w' v l := by
  obtain ⟨b, o, cap, hv, hb, h0, hc, hx⟩ := h
  exact ⟨b, o, cap, hv, hb, h0, hc, fun i x hi => k _ _ hb (hx i x hi)⟩

theorem Chunk.mono {ok ok' : Nat → Prop} {w : World} {v : Value} {l : List UInt8} (h : Chunk ok w v l) (k : ∀ b, b < w.heap.size → ok b → ok' b) : Chunk ok' w v l := by
  obtain ⟨b, o, cap, hv, hb, h0, hc, hx⟩ := h
  have h1 := hx 0 l[0] (List.getElem?_eq_getElem h0)
  exact ⟨b, o, cap, hv, k b (World.block_lt_of_cell? w _ h1) hb, h0, hc, hx⟩

theorem Chunks.kept {ok : Nat → Prop} {w w' : World} {xs : List Value} {ls : List (List UInt8)} (h : Chunks ok w xs ls) (k : Keeps ok w w') : Chunks ok w' xs ls :=
  ⟨h.1, fun i u l hu hl => (h.2 i u l hu hl).kept k⟩

theorem Chunks.mono {ok ok' : Nat → Prop} {w : World} {xs : List Value} {ls : List (List UInt8)} (h : Chunks ok w xs ls) (k : ∀ b, b < w.heap.size → ok b → ok' b) : Chunks ok' w xs ls :=
  ⟨h.1, fun i u l hu hl => (h.2 i u l hu hl).mono k⟩

theorem Chunks.nil (ok : Nat → Prop) (w : World) : Chunks ok w [] [] := ⟨rfl, fun i u l hu _ => by simp at hu⟩

theorem Chunks.append {ok : Nat → Prop} {w : World} {xs ys : List Value} {ls ms : List (List UInt8)} (h : Chunks ok w xs ls) (k : Chunks ok w ys ms) : Chunks ok w (xs ++ ys) (ls ++ ms) := by
  refine ⟨by rw [List.length_append, List.length_append, h.1, k.1], fun i u l hu hl => ?_⟩
  by_cases hi : i < xs.length
  · rw [List.getElem?_append_left hi] at hu
    rw [List.getElem?_append_left (by rw [← h.1]; exact hi)] at hl
    exact h.2 i u l hu hl
  · rw [List.getElem?_append_right (by omega)] at hu
    rw [List.getElem?_append_right (by rw [← h.1]; omega)] at hl
    rw [h.1] at hu
    exact k.2 _ u l hu hl

theorem Chunks.single {ok : Nat → Prop} {w : World} {u : Value} {l : List UInt8} (h : Chunk ok w u l) : Chunks ok w [u] [l] :=
  ⟨rfl, fun i u' l' hu hl => by
    cases i with
    | zero => simp at hu hl; subst hu; subst hl; exact h
    | succ i => simp at hu⟩

theorem Chunks.take {ok : Nat → Prop} {w : World} {xs : List Value} {ls : List (List UInt8)} (h : Chunks ok w xs ls) (k : Nat) : Chunks ok w (xs.take k) (ls.take k) := by
  refine ⟨by rw [List.length_take, List.length_take, h.1], fun i u l hu hl => ?_⟩
  rw [List.getElem?_take] at hu hl
  split at hu
  · rw [if_pos (by assumption)] at hl; exact h.2 i u l hu hl
  · cases hu

theorem Chunks.drop {ok : Nat → Prop} {w : World} {xs : List Value} {ls : List (List UInt8)} (h : Chunks ok w xs ls) (k : Nat) : Chunks ok w (xs.drop k) (ls.drop k) := by
  refine ⟨by rw [List.length_drop, List.length_drop, h.1], fun i u l hu hl => ?_⟩
  rw [List.getElem?_drop] at hu hl
  exact h.2 _ u l hu hl

theorem RowAt.kept {ok : Nat → Prop} {w w' : World} {v : Value} {ls : List (List UInt8)} (h : RowAt ok w v ls) (k : Keeps ok w w') : RowAt ok w' v ls := by
  rcases h with h | ⟨b, o, cap, xs, hv, hb, hc, hx, hk⟩
  · exact .inl h
  · exact .inr ⟨b, o, cap, xs, hv, hb, hc, fun i u hu => k _ _ hb (hx i u hu), hk.kept k⟩

/-- What the value of a row looks like: a slice, as long as the row; behind an address where there is one at least. -/
theorem RowAt.form {ok : Nat → Prop} {w : World} {v : Value} {ls : List (List UInt8)} (h : RowAt ok w v ls) : ∃ p cap, v = .slice p ls.length cap := by
  rcases h with ⟨rfl, rfl⟩ | ⟨b, o, cap, xs, rfl, _⟩
  · exact ⟨none, 0, rfl⟩
  · exact ⟨_, _, rfl⟩

/-- Where ok' is wider. -/
theorem RowAt.wide {ok ok' : Nat → Prop} {w : World} {v : Value} {ls : List (List UInt8)} (h : RowAt ok w v ls) (k : ∀ b, ok b → ok' b) : RowAt ok' w v ls := by
  rcases h with h | ⟨b, o, cap, xs, hv, hb, hc, hx, hk⟩
  · exact .inl h
  · exact .inr ⟨b, o, cap, xs, hv, k b hb, hc, hx, hk.mono fun b _ h => k b h⟩

/-- What the call owns is a row. -/
theorem RowAt.of_owns {ok : Nat → Prop} {w : World} {base : Nat} {e : TypeId} {v : Value} {xs : List Value} {ls : List (List UInt8)} (h : w.ownsRow base e 1 v ls.length xs) (hc : Chunks ok w xs ls) (hok : ∀ g, base ≤ g → g < w.heap.size → ok g) : RowAt ok w v ls := by
  rcases h.2 with ⟨hv, hn⟩ | ⟨g, cap, cur, rfl, hb, hg, hnc, _, _, htake⟩
  · exact .inl ⟨hv, List.eq_nil_of_length_eq_zero hn⟩
  · refine .inr ⟨g, 0, cap, xs, rfl, hok g hb (Array.getElem?_eq_some_iff.1 hg).1, hnc, fun i u hu => ?_, hc⟩
    have := h.cells (g := g) rfl i u hu
    rwa [show (⟨g, 0, none⟩ : Addr).add i = ⟨g, 0 + i, none⟩ from by unfold Addr.add; split <;> simp_all] at this

end Go.Proofs.Ytijfifbjiakilaa
