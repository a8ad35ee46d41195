/-
  Blx, Pk1, Pk2, Pk3, Pk4, Pk5, StB, Pk6, Pk7, Pk8, Pk9, PkA, PkL, in one text. Conditions: as each theorem's premises say.
-/
import Derived.Test.YtjmfjlffcopnnaaDoorPsB
import Derived.Test.YtjmfjlffcopnnaaDoorPkM
import Derived.Test.YtjmfjlffcopnnaaDoorM16
import Derived.Laws.IdiomStrings
import Derived.Test.YtjmfjlffcopnnaaDoorM01
import Derived.Deep.RegionHeld3
import Derived.Deep.RegionLaw
import Derived.Test.YtjmfjlffcopnnaaDoorM18
import Derived.Test.YtjmfjlffcopnnaaDoorM03
namespace Go.Proofs.YtjmfjlffcopnnaaDoor
open Go.RowKit

def Bl (w W : World) : Prop := Below w.heap.size w W
theorem Bl.refl (w : World) : Bl w w := Below.refl _ _
theorem Bl.size {w W : World} (h : Bl w W) : w.heap.size ≤ W.heap.size := Below.size h
theorem Bl.drew {w W : World} (h : Bl w W) : Bl w W.drew := below_drew h
theorem Bl.alloc {w W : World} (h : Bl w W) (o : Obj) : Bl w (W.alloc o) := Below.alloc h h.size o
theorem Bl.call {w W W' : World} (h : Bl w W) (hb : Below W.heap.size W W') : Bl w W' := Below.trans h (hb.mono h.size)
theorem Bl.set {w W : World} (h : Bl w W) {g j : Nat} (hg : w.heap.size ≤ g) (u : Value) : Bl w (W.setCell ⟨g, j, none⟩ u) := below_set h hg u
theorem Bl.cell {w W : World} (h : Bl w W) {b o : Nat} {u : Value} (hc : w.cell? ⟨b, o, none⟩ = some u) : W.cell? ⟨b, o, none⟩ = some u := cell_later h hc
theorem heap_old {W : World} {k : Nat} {o : Obj} (h : W.heap[k]? = some o) (o' : Obj) : (W.alloc o').heap[k]? = some o :=
  ((below1 (Below.refl W.heap.size W) (Nat.le_refl _) o').block k (Array.getElem?_eq_some_iff.1 h).1).trans h
theorem heap_new {W : World} {k : Nat} (hk : W.heap.size = k) (cs : Array Value) (ty : TypeId) : (W.alloc (.cells cs ty)).heap[k]? = some (.cells cs ty (0, 0)) := by
  subst hk; exact heap_alloc_new W _
/-- Four boxes just made. -/
theorem heap_later {w W : World} {k : Nat} {o : Obj} (h : w.heap[k]? = some o) (hb : Bl w W) : W.heap[k]? = some o := (Below.block hb k (Array.getElem?_eq_some_iff.1 h).1).trans h

end Go.Proofs.YtjmfjlffcopnnaaDoor

namespace Go.Proofs.YtjmfjlffcopnnaaDoor
open Go.RowKit

def lyB : Ly UInt8 where
  ty := 5
  sz := 1
  cells b := [.int .u8 b.toNat]
  len _ := rfl
  one t u hu := by
    simp at hu
    rcases hu with rfl
    rfl
  pos := by decide
theorem info5 : (Tryd.prog.info? 5).map (fun i => (i.zero, i.size, i.bytes)) = some (some (.int .u8 0), 1, 1) := by kernel_rfl
theorem built_own (w : World) (base : Nat) (hb : base ≤ w.heap.size) (b : UInt8) : lyB.Own (w.alloc (.cells #[.int .u8 b.toNat] 5)) base (.slice (some ⟨w.heap.size, 0, none⟩) 1 1) [b] :=
  ⟨rfl, .inr ⟨w.heap.size, 1, _, rfl, hb, heap_alloc_new w _, Nat.le_refl 1, (by decide : 1 ≤ maxLen), rfl, rfl⟩⟩
theorem back_bytes {w : World} {base g n cap : Nat} {l : List UInt8} (h : lyB.Own w base (.slice (some ⟨g, 0, none⟩) n cap) l) (hn : l.length = n) : (convert 49 9 (.slice (some ⟨g, 0, none⟩) n cap)).run Tryd.prog w = .ok (.string ⟨l.toArray⟩) w := by
  subst hn
  refine run_convert_bytes_back (P := Tryd.prog) w 49 9 5 ⟨g, 0, none⟩ cap l Tryd.underlying49 Tryd.underlying5 Tryd.underlying9 fun j hj => ?_
  have := h.at (List.getElem?_eq_getElem hj) 0 _ rfl
  rw [add_plain, Nat.zero_add]
  rw [show j * lyB.sz = j from Nat.mul_one j] at this
  exact this

/-- How far Decimal's loop has come: this number is left, these digits stand. -/
def DecI (n k : Nat) (acc : List UInt8) : Prop := (acc = [] ∧ k = n) ∨ (0 < k ∧ ∃ f, k < f ∧ decA f k acc = decL n) ∨ (k = 0 ∧ acc = decL n ∧ acc ≠ [])
theorem decI_step {n k : Nat} {acc : List UInt8} (h : DecI n k acc) (hk : 0 < k ∨ acc = []) : DecI n (k / 10) (UInt8.ofNat (48 + k % 10) :: acc) := by
  have key : ∀ f, k < f + 1 → decA (f + 1) k acc = decL n → DecI n (k / 10) (UInt8.ofNat (48 + k % 10) :: acc) := fun f hf e => by
    unfold decA at e
    by_cases h0 : k / 10 = 0
    · rw [if_pos h0] at e
      exact .inr (.inr ⟨h0, e, by simp⟩)
    · rw [if_neg h0] at e
      exact .inr (.inl ⟨by omega, f, by omega, e⟩)
  rcases h with ⟨rfl, rfl⟩ | ⟨h1, f, hf, e⟩ | ⟨h1, _, h3⟩
  · exact key k (by omega) rfl
  · cases f with
    | zero => omega
    | succ f => exact key f hf e
  · rcases hk with hk | hk
    · omega
    · exact absurd hk h3
theorem decI_le {n k : Nat} {acc : List UInt8} (h : DecI n k acc) : acc.length ≤ (decL n).length := by
  rcases h with ⟨rfl, -⟩ | ⟨-, f, -, e⟩ | ⟨-, e, -⟩
  · simp
  · rw [← e, decA_len]; omega
  · rw [e]; exact Nat.le_refl _
theorem decL_len {n : Nat} (h : n ≤ 9223372036854775807) : (decL n).length ≤ 19 := Nat.le_trans (decL_mono h) (by decide +kernel)
def isNil : Value → Nat
  | .slice none _ _ => 1
  | _ => 0
def tx (l : List UInt8) : Value := .string ⟨l.toArray⟩

theorem ofNat_dg {d : Nat} (h : d < 10) : ((UInt8.ofNat (48 + d)).toNat : Int) = 48 + (d : Int) := by
  rw [dg_nat h]
  omega

end Go.Proofs.YtjmfjlffcopnnaaDoor

namespace Go.Proofs.YtjmfjlffcopnnaaDoor
open Go.RowKit

theorem bytes_app (a b : ByteArray) : bytesOf (a ++ b) = bytesOf a ++ bytesOf b := by
  unfold bytesOf
  rw [ByteArray.data_append]
  simp
theorem bytes_len (a : ByteArray) : (bytesOf a).length = a.size := by
  unfold bytesOf
  rw [Array.length_toList]
  rfl
/-- A text that has these bytes. -/
def TxP (l : List UInt8) (w : World) (e : Ending) (w' : World) : Prop := ∃ z : ByteArray, e = .returned (.string z) ∧ bytesOf z = l ∧ Below w.heap.size w w'
theorem TxP.size {z : ByteArray} {l : List UInt8} (h : bytesOf z = l) : z.size = l.length := by rw [← h, bytes_len]
theorem num_len {n : Int} (h0 : 0 ≤ n) (h1 : n ≤ 9223372036854775807) : (numC n []).length ≤ 20 := by
  unfold numC
  have := decL_len (n := n.toNat) (by omega)
  simp
  omega
theorem str_len (t : List UInt8) (h : t.length ≤ 9223372036854775807) : (strC t []).length ≤ 20 + t.length := by
  unfold strC
  have := decL_len h
  simp
  omega
theorem row_take_len {α : Type} {f : α → List UInt8 → List UInt8} (hf : App f) (xs : List α) (i : Nat) : (rowC f (xs.take i) []).length ≤ (rowC f xs []).length := by
  have h : rowC f xs [] = rowC f (xs.take i) [] ++ rowC f (xs.drop i) [] := by
    have h1 : rowC f xs [] = rowC f (xs.take i) (rowC f (xs.drop i) []) := by
      unfold rowC
      rw [← List.foldr_append, List.take_append_drop]
    rw [h1]
    have := row_app hf (xs.take i) [] (rowC f (xs.drop i) [])
    rw [List.nil_append] at this
    exact this
  rw [h, List.length_append]
  omega
theorem list_split {α : Type} {f : α → List UInt8 → List UInt8} (xs : List α) : listC f xs [] = numC xs.length [] ++ rowC f xs [] := num_app.nil _ _
theorem row_snoc {α : Type} {f : α → List UInt8 → List UInt8} (hf : App f) {xs : List α} {i : Nat} {x : α} (h : xs[i]? = some x) : rowC f (xs.take (i + 1)) [] = rowC f (xs.take i) [] ++ f x [] := by
  rw [List.take_add_one, h]
  unfold rowC
  rw [List.foldr_append]
  show List.foldr f (f x []) (xs.take i) = _
  have := row_app hf (xs.take i) [] (f x [])
  unfold rowC at this
  rw [List.nil_append] at this
  exact this
end Go.Proofs.YtjmfjlffcopnnaaDoor

namespace Go.Proofs.YtjmfjlffcopnnaaDoor
open Go.RowKit
open Go.Proofs.YtjmfjlffcopnnaaDoor.K (C RowC PieceAt)

theorem comp_app : App compC := by
  intro x r r'
  unfold compC
  split
  · rw [str_app]; rfl
  split
  · rw [num_app]; rfl
  · rw [num_app]; rfl
/-- What a piece is, that can be packed. -/
def CpP (c : C) : Prop := (c.k = 1 ∧ c.t.size ≤ 140737488355328) ∨ ((c.k = 0 ∨ c.k = 2) ∧ 0 ≤ c.n ∧ c.n ≤ 9223372036854775807)
theorem ltr0 : bytesOf ((⟨#[107, 32, 99]⟩ : ByteArray).extract 0 1) = [107] := by decide +kernel
theorem ltr2 : bytesOf ((⟨#[107, 32, 99]⟩ : ByteArray).extract 2 3) = [99] := by decide +kernel

end Go.Proofs.YtjmfjlffcopnnaaDoor

namespace Go.Proofs.YtjmfjlffcopnnaaDoor
open Go.RowKit
open Go.Proofs.YtjmfjlffcopnnaaDoor.K (C RowC PieceAt)

theorem node_app : App nodeC := by
  intro x r r'
  unfold nodeC
  rw [list_app num_app, num_app, num_app, num_app, num_app]
/-- What a node is, that can be packed. -/
def NmP (x : Int) : Prop := 0 ≤ x ∧ x ≤ 9223372036854775807
def NdP (x : Nd) : Prop := NmP x.id ∧ NmP x.kd ∧ NmP x.fr ∧ NmP (Nd.to x) ∧ (∀ k ∈ x.kids, NmP k) ∧ x.kids.length ≤ 140737488355328
theorem node_split (x : Nd) : nodeC x [] = numC x.id [] ++ (numC x.kd [] ++ (numC x.fr [] ++ (numC (Nd.to x) [] ++ listC numC x.kids []))) := by
  unfold nodeC
  rw [num_app.nil x.id, num_app.nil x.kd, num_app.nil x.fr, num_app.nil (Nd.to x)]
theorem row_elem_len {α : Type} {f : α → List UInt8 → List UInt8} (hf : App f) {xs : List α} {i : Nat} {x : α} (h : xs[i]? = some x) : (rowC f (xs.take i) []).length + (f x []).length ≤ (rowC f xs []).length := by
  have h1 := row_take_len hf xs (i + 1)
  rw [row_snoc hf h, List.length_append] at h1
  exact h1

end Go.Proofs.YtjmfjlffcopnnaaDoor

namespace Go.Proofs.YtjmfjlffcopnnaaDoor
open Go.RowKit
open Go.Proofs.YtjmfjlffcopnnaaDoor.K (C RowC PieceAt)

theorem step_app : App stepC := by
  intro x r r'
  unfold stepC
  rw [list_app num_app, num_app, num_app, num_app, num_app, num_app]
theorem ent_app : App entC := by
  intro x r r'
  unfold entC
  rw [list_app step_app, list_app comp_app, num_app, num_app]
/-- What a step, an entry is, that can be packed. -/
def StP (x : St) : Prop := NmP x.kd ∧ NmP x.id ∧ NmP x.nd ∧ NmP x.fr ∧ NmP (St.to x) ∧ (∀ k ∈ x.kids, NmP k) ∧ x.kids.length ≤ 140737488355328
def EnP (e : En) : Prop := NmP e.cl ∧ NmP e.sq ∧ (∀ c ∈ e.ed, CpP c) ∧ (∀ s ∈ e.dl, StP s) ∧ e.ed.length ≤ 140737488355328 ∧ e.dl.length ≤ 140737488355328
theorem step_split (x : St) : stepC x [] = numC x.kd [] ++ (numC x.id [] ++ (numC x.nd [] ++ (numC x.fr [] ++ (numC (St.to x) [] ++ listC numC x.kids [])))) := by
  unfold stepC
  rw [num_app.nil x.kd, num_app.nil x.id, num_app.nil x.nd, num_app.nil x.fr, num_app.nil (St.to x)]
theorem ent_split (e : En) : entC e [] = numC e.cl [] ++ (numC e.sq [] ++ (listC compC e.ed [] ++ (numC (e.dl.length : Int) [] ++ rowC stepC e.dl []))) := by
  unfold entC
  rw [num_app.nil e.cl, num_app.nil e.sq, (list_app comp_app).nil e.ed, list_split (f := stepC)]
/-- An entry as a value. -/
def enV (cl sq : Int) (ep : Option Addr) (en ec : Nat) (dp : Option Addr) (dn dc : Nat) : Value := .agg #[.int .i64 cl, .int .i64 sq, .slice ep en ec, .slice dp dn dc]

end Go.Proofs.YtjmfjlffcopnnaaDoor

namespace Go.Proofs.YtjmfjlffcopnnaaDoor
open Go.RowKit

/-- A step as a value. -/
def stV (s : St) (kp : Option Addr) (kc : Nat) : Value := .agg #[.int .i64 s.kd, .int .i64 s.id, .int .i64 s.nd, .int .i64 s.fr, .int .i64 (St.to s), .slice kp s.kids.length kc]

end Go.Proofs.YtjmfjlffcopnnaaDoor

namespace Go.Proofs.YtjmfjlffcopnnaaDoor
open Go.RowKit
open Go.Proofs.YtjmfjlffcopnnaaDoor.K (C RowC PieceAt MayP)

/-- An answer that is true where P holds. -/
def Tells (P : Prop) (w : World) (e : Ending) (w' : World) : Prop := Below w.heap.size w w' ∧ ((e = .returned (.bool true) ∧ P) ∨ (e = .returned (.bool false) ∧ ¬ P))
/-- An entry's own cells. -/
structure Ev where
  cl : Int
  sq : Int
  ep : Option Addr
  en : Nat
  ec : Nat
  dp : Option Addr
  dn : Nat
  dc : Nat
def Ev.ev (x : Ev) : Value := .slice x.ep x.en x.ec
def Ev.dv (x : Ev) : Value := .slice x.dp x.dn x.dc
def Ev.cells (x : Ev) : List Value := [.int .i64 x.cl, .int .i64 x.sq, x.ev, x.dv]
def lyE : Ly Ev where
  ty := 48
  sz := 4
  cells := Ev.cells
  len _ := rfl
  one t u hu := by
    simp [Ev.cells, Ev.ev, Ev.dv] at hu
    rcases hu with rfl | rfl | rfl | rfl <;> rfl
  pos := by decide
theorem info54 : (Tryd.prog.info? 48).map (fun i => (i.zero, i.size, i.bytes)) = some (some (.agg #[.int .i64 0, .int .i64 0, .slice none 0 0, .slice none 0 0]), 4, 64) := by kernel_rfl
theorem rowC_below {w w' : World} {p : Option Addr} {cs : List C} (h : RowC w p cs) (hb : Below w.heap.size w w') : RowC w' p cs := fun i c hi => by
  obtain ⟨b, o, hp, hat⟩ := h i c hi
  exact ⟨b, o, hp, cell_later hb hat.1, cell_later hb hat.2.1, cell_later hb hat.2.2⟩
/-- The entries of a slice, as they lie in memory, with their edits and their deltas. -/
def EntsR (w : World) (p : Option Addr) (es : List En) : Prop := ∀ (i : Nat) e, es[i]? = some e → ∃ b o ep ec dp dc, p = some ⟨b, o, none⟩ ∧ lyE.At w b (o + i * 4) ⟨e.cl, e.sq, ep, e.ed.length, ec, dp, e.dl.length, dc⟩ ∧ RowC w ep e.ed ∧ StepsR w dp e.dl
theorem EntsR.below {w w' : World} {p : Option Addr} {es : List En} (h : EntsR w p es) (hb : Below w.heap.size w w') : EntsR w' p es := fun i e hi => by
  obtain ⟨b, o, ep, ec, dp, dc, h1, h2, h3, h4⟩ := h i e hi
  exact ⟨b, o, ep, ec, dp, dc, h1, h2.below hb, rowC_below h3 hb, h4.below hb⟩
def EnMay (e : En) : Prop := 0 ≤ e.cl ∧ e.cl < 3 ∧ 1 ≤ e.sq ∧ e.sq ≤ 4096 ∧ MayP e.ed ∧ e.dl.length ≤ 8192 ∧ ∀ s ∈ e.dl, stepMay s = true

theorem tells_no {P : Prop} {w w' : World} (h : ¬ P) (hb : Below w.heap.size w w') : Tells P w (.returned (.bool false)) w' := ⟨hb, .inr ⟨rfl, h⟩⟩
theorem tells_yes {P : Prop} {w w' : World} (h : P) (hb : Below w.heap.size w w') : Tells P w (.returned (.bool true)) w' := ⟨hb, .inl ⟨rfl, h⟩⟩

end Go.Proofs.YtjmfjlffcopnnaaDoor

namespace Go.Proofs.YtjmfjlffcopnnaaDoor
open Go.RowKit
open Go.Proofs.YtjmfjlffcopnnaaDoor.K (C RowC PieceAt MayP)

/-- Where a message's rows lie. -/
structure Mq where
  ep : Option Addr
  ec : Nat
  sp : Option Addr
  sc : Nat
  np : Option Addr
  nc : Nat
/-- A message as a value. -/
def msV (m : Ms) (q : Mq) : Value := .agg #[.int .i64 m.kd, .int .i64 m.cl, .int .i64 m.rv, .int .i64 m.sq, .int .i64 m.fr, .int .i64 m.ls, .bool m.rf, .slice q.ep m.ed.length q.ec, .slice q.sp m.es.length q.sc, .string m.tx, .int .i64 m.ro, .int .i64 m.nx, .slice q.np m.ns.length q.nc]
/-- Its cells in a box. -/
def msC (m : Ms) (q : Mq) : Obj := .cells #[.int .i64 m.kd, .int .i64 m.cl, .int .i64 m.rv, .int .i64 m.sq, .int .i64 m.fr, .int .i64 m.ls, .bool m.rf, .slice q.ep m.ed.length q.ec, .slice q.sp m.es.length q.sc, .string m.tx, .int .i64 m.ro, .int .i64 m.nx, .slice q.np m.ns.length q.nc] 28
structure MsR (w : World) (m : Ms) (q : Mq) : Prop where
  ed : RowC w q.ep m.ed
  es : EntsR w q.sp m.es
  ns : NodesR w q.np m.ns
theorem MsR.below {w w' : World} {m : Ms} {q : Mq} (h : MsR w m q) (hb : Below w.heap.size w w') : MsR w' m q := ⟨rowC_below h.ed hb, h.es.below hb, h.ns.below hb⟩
/-- No longer than a computer's memory. -/
structure MsZ (m : Ms) : Prop where
  ed : m.ed.length ≤ 140737488355328
  es : m.es.length ≤ 140737488355328
  ns : m.ns.length ≤ 140737488355328
  tx : m.tx.size ≤ 140737488355328
  kids : ∀ x ∈ m.ns, x.kids.length ≤ 140737488355328
  each : ∀ e ∈ m.es, e.ed.length ≤ 140737488355328 ∧ e.dl.length ≤ 140737488355328 ∧ ∀ s ∈ e.dl, s.kids.length ≤ 140737488355328
def MsHead (m : Ms) : Prop := 0 ≤ m.cl ∧ m.cl < 3 ∧ 0 ≤ m.rv ∧ m.rv ≤ 4096 ∧ 0 ≤ m.sq ∧ m.sq ≤ 4096
def MsBare (m : Ms) : Prop := m.fr = 0 ∧ m.ls = 0 ∧ m.rf = false ∧ m.tx = ⟨#[]⟩ ∧ m.ro = 0 ∧ m.nx = 0 ∧ m.ns.length = 0
def MsMay (m : Ms) : Prop := MsHead m ∧
  ((m.kd = 0 ∧ MsBare m ∧ m.es.length = 0 ∧ MayP m.ed ∧ (0 < m.sq ∨ m.ed.length = 0))
  ∨ (m.kd = 1 ∧ MsBare m ∧ m.ed.length = 0 ∧ m.sq = 0 ∧ m.es.length ≤ 3 ∧ ∀ e ∈ m.es, EnMay e)
  ∨ (m.kd = 2 ∧ m.es.length = 0 ∧ m.ed.length = 0 ∧ 0 ≤ m.fr ∧ m.fr ≤ 4096 ∧ 0 ≤ m.ls ∧ m.ls ≤ 4096 ∧ m.tx.size ≤ 300 ∧ mayB m.ns m.ro m.nx m.tx.size = true))
theorem empty_list {t : ByteArray} (h : t.toList = []) : t = ⟨#[]⟩ := by
  have h1 := K.isEmpty_size t
  rw [h] at h1
  have h2 : t.size = 0 := of_decide_eq_true h1.symm
  apply ByteArray.ext
  exact Array.eq_empty_of_size_eq_zero h2

end Go.Proofs.YtjmfjlffcopnnaaDoor

namespace Go.Proofs.YtjmfjlffcopnnaaDoor
open Go.RowKit
open Go.Proofs.YtjmfjlffcopnnaaDoor.K (C RowC PieceAt MayP)

end Go.Proofs.YtjmfjlffcopnnaaDoor

namespace Go.Proofs.YtjmfjlffcopnnaaDoor
open Go.RowKit
open Go.Proofs.YtjmfjlffcopnnaaDoor.K (C RowC PieceAt MayP)

end Go.Proofs.YtjmfjlffcopnnaaDoor

namespace Go.Proofs.YtjmfjlffcopnnaaDoor
open Go.RowKit
open Go.Proofs.YtjmfjlffcopnnaaDoor.K (C RowC PieceAt MayP)

end Go.Proofs.YtjmfjlffcopnnaaDoor

namespace Go.Proofs.YtjmfjlffcopnnaaDoor
open Go.Proofs.YtjmfjlffcopnnaaDoor.K (C MayP)

theorem row_len {α : Type} {f : α → List UInt8 → List UInt8} (hf : App f) {M : Nat} : ∀ {xs : List α}, (∀ x ∈ xs, (f x []).length ≤ M) → (rowC f xs []).length ≤ xs.length * M
  | [], _ => by simp [rowC]
  | x :: xs, h => by
    have ih := row_len hf (xs := xs) fun y hy => h y (List.mem_cons_of_mem _ hy)
    have h1 : rowC f (x :: xs) [] = f x [] ++ rowC f xs [] := hf.nil x _
    rw [h1, List.length_append, List.length_cons, Nat.succ_mul]
    have := h x (List.mem_cons_self ..)
    omega
theorem list_len {α : Type} {f : α → List UInt8 → List UInt8} (hf : App f) {M : Nat} {xs : List α} (h : ∀ x ∈ xs, (f x []).length ≤ M) (hl : xs.length ≤ 140737488355328) : (listC f xs []).length ≤ 20 + xs.length * M := by
  rw [list_split, List.length_append]
  have := row_len hf h
  have := num_len (n := (xs.length : Int)) (by omega) (by omega)
  omega
theorem nums_len {xs : List Int} (h : ∀ x ∈ xs, NmP x) (hl : xs.length ≤ 2048) : (listC numC xs []).length ≤ 41000 := by
  have := list_len num_app (M := 20) (fun x hx => num_len (h x hx).1 (h x hx).2) (by omega)
  omega
theorem nm_small {x : Int} (h0 : 0 ≤ x) (h1 : x ≤ 16777216) : NmP x := ⟨h0, by omega⟩

theorem may_nodes {ns : List Nd} {root next size : Int} (h : mayB ns root next size = true) : ns.length ≤ 2048 ∧ NmP root ∧ NmP next ∧ ∀ x ∈ ns, NdP x ∧ x.kids.length ≤ 2048 := by
  have Cm := mayC_is.1 h
  have hid : ∀ x ∈ ns, NmP x.id := fun x hx => by
    have hn := nodeOk_is.1 (Cm.node x hx)
    have := Cm.next1
    exact nm_small hn.1.1 (by omega)
  obtain ⟨y, hy, _, hyr, _⟩ := root_node Cm
  refine ⟨Cm.few, by rw [← hyr]; exact hid y hy, nm_small Cm.next0 Cm.next1, fun x hx => ?_⟩
  have hn := nodeOk_is.1 (Cm.node x hx)
  have hs := Cm.size1
  have hk : ∀ c ∈ x.kids, (allKids ns).count c = 1 ∧ NmP c := fun c hc => by
    obtain ⟨h1, _, z, hz, hzc⟩ := kids_once Cm hx hc
    exact ⟨h1, by rw [← hzc]; exact hid z hz⟩
  have hnd : x.kids.Nodup := List.nodup_iff_count.2 fun c => by
    by_cases hc : c ∈ x.kids
    · rw [← (hk c hc).1]
      exact count_kids hx c
    · rw [List.count_eq_zero_of_not_mem hc]
      omega
  have hkl : x.kids.length ≤ 2048 := by
    have := pigeon x.kids (ns.map Nd.id) hnd fun c hc => by
      obtain ⟨_, _, z, hz, hzc⟩ := kids_once Cm hx hc
      exact List.mem_map.2 ⟨z, hz, hzc⟩
    rw [List.length_map] at this
    exact Nat.le_trans this Cm.few
  exact ⟨⟨hid x hx, nm_small hn.2.1 (by omega), nm_small hn.2.2.2.1 (by omega), nm_small (by omega) (by omega), fun c hc => (hk c hc).2, by omega⟩, hkl⟩
theorem node_len {x : Nd} (h : NdP x) (hk : x.kids.length ≤ 2048) : (nodeC x []).length ≤ 41100 := by
  rw [node_split]
  have h1 := num_len h.1.1 h.1.2
  have h2 := num_len h.2.1.1 h.2.1.2
  have h3 := num_len h.2.2.1.1 h.2.2.1.2
  have h4 := num_len h.2.2.2.1.1 h.2.2.2.1.2
  have h5 := nums_len h.2.2.2.2.1 hk
  simp only [List.length_append]
  omega
theorem idB_nm {i : Int} (h : idB i = true) : NmP i := by
  unfold idB at h
  simp only [Bool.and_eq_true, decide_eq_true_eq] at h
  exact nm_small h.1 (by omega)
theorem stp {kd id nd fr tt : Int} {ks : List Int} (a : NmP kd) (b : NmP id) (c : NmP nd) (d : NmP fr) (e : NmP tt) (f : ∀ k ∈ ks, NmP k) (g : ks.length ≤ 2048) : StP ⟨kd, id, nd, fr, tt, ks⟩ ∧ ks.length ≤ 2048 := ⟨⟨a, b, c, d, e, f, Nat.le_trans g (by decide)⟩, g⟩
theorem no_kids {P : Int → Prop} : ∀ k ∈ ([] : List Int), P k := fun k hk => by cases hk
theorem may_step {s : St} (h : stepMay s = true) : StP s ∧ s.kids.length ≤ 2048 := by
  unfold stepMay at h
  simp only [Bool.and_eq_true, Bool.or_eq_true, beq_iff_eq, decide_eq_true_eq, List.isEmpty_iff, List.all_eq_true] at h
  obtain ⟨hi, h⟩ := h
  have z : NmP 0 := nm_small (Int.le_refl _) (by decide)
  have hid := idB_nm hi
  obtain ⟨kd, id, nd, fr, tt, ks⟩ := s
  dsimp only at *
  rcases h with ((⟨⟨⟨⟨rfl, rfl⟩, rfl⟩, rfl⟩, rfl⟩ | ⟨⟨⟨⟨⟨rfl, h1⟩, h2⟩, rfl⟩, rfl⟩, rfl⟩) | ⟨⟨⟨⟨⟨rfl, rfl⟩, rfl⟩, rfl⟩, h5⟩, h6⟩) | ⟨⟨⟨⟨⟨rfl, rfl⟩, h3⟩, h4⟩, h5⟩, rfl⟩
  · exact stp z hid z z z no_kids (by simp)
  · exact stp (nm_small (by decide) (by decide)) hid (nm_small h1 (by omega)) z z no_kids (by simp)
  · exact stp (nm_small (by decide) (by decide)) hid z z z (fun k hk => idB_nm (h5 k hk)) h6
  · exact stp (nm_small (by decide) (by decide)) hid z (nm_small h3 (by omega)) (nm_small (by omega) (by omega)) no_kids (by simp)
theorem step_len {s : St} (h : StP s) (hk : s.kids.length ≤ 2048) : (stepC s []).length ≤ 41100 := by
  rw [step_split]
  have h1 := num_len h.1.1 h.1.2
  have h2 := num_len h.2.1.1 h.2.1.2
  have h3 := num_len h.2.2.1.1 h.2.2.1.2
  have h4 := num_len h.2.2.2.1.1 h.2.2.2.1.2
  have h5 := num_len h.2.2.2.2.1.1 h.2.2.2.2.1.2
  have h6 := nums_len h.2.2.2.2.2.1 hk
  simp only [List.length_append]
  omega
theorem may_comps {cs : List C} (h : MayP cs) : cs.length ≤ 4096 ∧ ∀ c ∈ cs, CpP c ∧ (compC c []).length ≤ 4200 := by
  obtain ⟨h1, h2, _⟩ := K.okB_iff.1 h.1
  refine ⟨h1, fun c hc => ?_⟩
  unfold compC
  rcases h2 c hc with ⟨hk, h0, hn, ht⟩ | ⟨hk, hn, ht⟩
  · refine ⟨.inr ⟨hk, h0, by omega⟩, ?_⟩
    have := num_len h0 (by omega : c.n ≤ 9223372036854775807)
    rcases hk with hk | hk <;> rw [hk] <;> simp <;> omega
  · refine ⟨.inl ⟨hk, by omega⟩, ?_⟩
    have := str_len (bytesOf c.t) (by rw [bytes_len]; omega)
    rw [bytes_len] at this
    rw [if_pos hk, List.length_cons]
    omega
theorem comps_len {cs : List C} (h : MayP cs) : (listC compC cs []).length ≤ 17300000 := by
  have h1 := may_comps h
  have := list_len comp_app (M := 4200) (fun c hc => (h1.2 c hc).2) (by omega)
  have := Nat.mul_le_mul_right 4200 h1.1
  omega
theorem may_entry {e : En} (h : EnMay e) : EnP e ∧ (entC e []).length ≤ 400000000 := by
  obtain ⟨a1, a2, a3, a4, a5, a6, a7⟩ := h
  have n1 : NmP e.cl := nm_small a1 (by omega)
  have n2 : NmP e.sq := nm_small (by omega) (by omega)
  have c1 := may_comps a5
  refine ⟨⟨n1, n2, fun c hc => (c1.2 c hc).1, fun s hs => (may_step (a7 s hs)).1, by omega, by omega⟩, ?_⟩
  rw [ent_split]
  have h1 := num_len n1.1 n1.2
  have h2 := num_len n2.1 n2.2
  have h3 := comps_len a5
  have h4 := num_len (n := (e.dl.length : Int)) (by omega) (by omega)
  have h5 := row_len step_app (M := 41100) (fun s hs => step_len (may_step (a7 s hs)).1 (may_step (a7 s hs)).2)
  have h6 := Nat.mul_le_mul_right 41100 a6
  simp only [List.length_append]
  omega
theorem tree_len {ns : List Nd} {root next size : Int} (h : mayB ns root next size = true) : (treeC root next ns []).length ≤ 100000000 := by
  obtain ⟨h1, h2, h3, h4⟩ := may_nodes h
  unfold treeC
  rw [num_app.nil root, num_app.nil next]
  have := num_len h2.1 h2.2
  have := num_len h3.1 h3.2
  have := list_len node_app (M := 41100) (fun x hx => node_len (h4 x hx).1 (h4 x hx).2) (by omega)
  have := Nat.mul_le_mul_right 41100 h1
  simp only [List.length_append]
  omega

end Go.Proofs.YtjmfjlffcopnnaaDoor
