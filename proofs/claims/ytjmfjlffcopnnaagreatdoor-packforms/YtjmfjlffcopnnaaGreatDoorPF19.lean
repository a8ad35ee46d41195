/-
  Blx, Pk1, Pk2, Pk3, Pk4, Pk5, StB, Pk6, Pk7, Pk8, Pk9, PkA, in one text. Conditions: as each theorem's premises say.
-/
import Derived.Test.YtjmfjlffcopnnaaGreatDoorPF06
import Derived.Test.YtjmfjlffcopnnaaGreatDoorPF18
import Derived.Test.YtjmfjlffcopnnaaGreatDoorPF16
import Derived.Laws.IdiomStrings
import Derived.Test.YtjmfjlffcopnnaaGreatDoorPF00
import Derived.Deep.RegionHeld3
import Derived.Deep.RegionLaw
import Derived.Test.YtjmfjlffcopnnaaGreatDoorPF02
namespace Go.Proofs.YtjmfjlffcopnnaaGreatDoor
open Go.RowKit

def Bl (w W : World) : Prop := Below w.heap.size w W
theorem Bl.refl (w : World) : Bl w w := Below.refl _ _
theorem Bl.size {w W : World} (h : Bl w W) : w.heap.size ≤ W.heap.size := Below.size h
theorem Bl.alloc {w W : World} (h : Bl w W) (o : Obj) : Bl w (W.alloc o) := Below.alloc h h.size o
theorem Bl.call {w W W' : World} (h : Bl w W) (hb : Below W.heap.size W W') : Bl w W' := Below.trans h (hb.mono h.size)
theorem Bl.set {w W : World} (h : Bl w W) {g j : Nat} (hg : w.heap.size ≤ g) (u : Value) : Bl w (W.setCell ⟨g, j, none⟩ u) := below_set h hg u
theorem Bl.cell {w W : World} (h : Bl w W) {b o : Nat} {u : Value} (hc : w.cell? ⟨b, o, none⟩ = some u) : W.cell? ⟨b, o, none⟩ = some u := cell_later h hc
theorem heap_old {W : World} {k : Nat} {o : Obj} (h : W.heap[k]? = some o) (o' : Obj) : (W.alloc o').heap[k]? = some o :=
  ((below1 (Below.refl W.heap.size W) (Nat.le_refl _) o').block k (Array.getElem?_eq_some_iff.1 h).1).trans h
theorem heap_new {W : World} {k : Nat} (hk : W.heap.size = k) (cs : Array Value) (ty : TypeId) : (W.alloc (.cells cs ty)).heap[k]? = some (.cells cs ty (0, 0)) := by
  subst hk; exact heap_alloc_new W _
/-- Four boxes just made. -/
theorem heap_later {w W : World} {k : Nat} {o : Obj} (h : w.heap[k]? = some o) (hb : Bl w W) : W.heap[k]? = some o := (Below.block hb k (Array.getElem?_eq_some_iff.1 h).1).trans h

end Go.Proofs.YtjmfjlffcopnnaaGreatDoor

namespace Go.Proofs.YtjmfjlffcopnnaaGreatDoor
open Go.RowKit

theorem info5 : (Tryz.prog.info? 5).map (fun i => (i.zero, i.size, i.bytes)) = some (some (.int .u8 0), 1, 1) := by kernel_rfl

theorem decL_len {n : Nat} (h : n ≤ 9223372036854775807) : (decL n).length ≤ 19 := Nat.le_trans (decL_mono h) (by decide +kernel)
def tx (l : List UInt8) : Value := .string ⟨l.toArray⟩

end Go.Proofs.YtjmfjlffcopnnaaGreatDoor

namespace Go.Proofs.YtjmfjlffcopnnaaGreatDoor
open Go.RowKit

theorem bytes_len (a : ByteArray) : (bytesOf a).length = a.size := by
  unfold bytesOf
  rw [Array.length_toList]
  rfl
/-- A text that has these bytes. -/
def TxP (l : List UInt8) (w : World) (e : Ending) (w' : World) : Prop := ∃ z : ByteArray, e = .returned (.string z) ∧ bytesOf z = l ∧ Below w.heap.size w w'
theorem TxP.size {z : ByteArray} {l : List UInt8} (h : bytesOf z = l) : z.size = l.length := by rw [← h, bytes_len]
theorem num_len {n : Int} (h0 : 0 ≤ n) (h1 : n ≤ 9223372036854775807) : (numC n []).length ≤ 20 := by
  unfold numC
  have := decL_len (n := n.toNat) (by omega)
  simp
  omega
theorem str_len (t : List UInt8) (h : t.length ≤ 9223372036854775807) : (strC t []).length ≤ 20 + t.length := by
  unfold strC
  have := decL_len h
  simp
  omega
theorem row_take_len {α : Type} {f : α → List UInt8 → List UInt8} (hf : App f) (xs : List α) (i : Nat) : (rowC f (xs.take i) []).length ≤ (rowC f xs []).length := by
  have h : rowC f xs [] = rowC f (xs.take i) [] ++ rowC f (xs.drop i) [] := by
    have h1 : rowC f xs [] = rowC f (xs.take i) (rowC f (xs.drop i) []) := by
      unfold rowC
      rw [← List.foldr_append, List.take_append_drop]
    rw [h1]
    have := row_app hf (xs.take i) [] (rowC f (xs.drop i) [])
    rw [List.nil_append] at this
    exact this
  rw [h, List.length_append]
  omega
theorem list_split {α : Type} {f : α → List UInt8 → List UInt8} (xs : List α) : listC f xs [] = numC xs.length [] ++ rowC f xs [] := num_app.nil _ _
theorem row_snoc {α : Type} {f : α → List UInt8 → List UInt8} (hf : App f) {xs : List α} {i : Nat} {x : α} (h : xs[i]? = some x) : rowC f (xs.take (i + 1)) [] = rowC f (xs.take i) [] ++ f x [] := by
  rw [List.take_add_one, h]
  unfold rowC
  rw [List.foldr_append]
  show List.foldr f (f x []) (xs.take i) = _
  have := row_app hf (xs.take i) [] (f x [])
  unfold rowC at this
  rw [List.nil_append] at this
  exact this

end Go.Proofs.YtjmfjlffcopnnaaGreatDoor

namespace Go.Proofs.YtjmfjlffcopnnaaGreatDoor
open Go.RowKit
open Go.Proofs.YtjmfjlffcopnnaaGreatDoor.K (C RowC PieceAt)

theorem comp_app : App compC := by
  intro x r r'
  unfold compC
  split
  · rw [str_app]; rfl
  split
  · rw [num_app]; rfl
  · rw [num_app]; rfl
/-- What a piece is, that can be packed. -/
def CpP (c : C) : Prop := (c.k = 1 ∧ c.t.size ≤ 140737488355328) ∨ ((c.k = 0 ∨ c.k = 2) ∧ 0 ≤ c.n ∧ c.n ≤ 9223372036854775807)

end Go.Proofs.YtjmfjlffcopnnaaGreatDoor

namespace Go.Proofs.YtjmfjlffcopnnaaGreatDoor
open Go.RowKit
open Go.Proofs.YtjmfjlffcopnnaaGreatDoor.K (C RowC PieceAt)

theorem node_app : App nodeC := by
  intro x r r'
  unfold nodeC
  rw [list_app num_app, num_app, num_app, num_app, num_app]
/-- What a node is, that can be packed. -/
def NmP (x : Int) : Prop := 0 ≤ x ∧ x ≤ 9223372036854775807
def NdP (x : Nd) : Prop := NmP x.id ∧ NmP x.kd ∧ NmP x.fr ∧ NmP (Nd.to x) ∧ (∀ k ∈ x.kids, NmP k) ∧ x.kids.length ≤ 140737488355328
theorem node_split (x : Nd) : nodeC x [] = numC x.id [] ++ (numC x.kd [] ++ (numC x.fr [] ++ (numC (Nd.to x) [] ++ listC numC x.kids []))) := by
  unfold nodeC
  rw [num_app.nil x.id, num_app.nil x.kd, num_app.nil x.fr, num_app.nil (Nd.to x)]

end Go.Proofs.YtjmfjlffcopnnaaGreatDoor

namespace Go.Proofs.YtjmfjlffcopnnaaGreatDoor
open Go.RowKit
open Go.Proofs.YtjmfjlffcopnnaaGreatDoor.K (C RowC PieceAt)

theorem step_app : App stepC := by
  intro x r r'
  unfold stepC
  rw [list_app num_app, num_app, num_app, num_app, num_app, num_app]
theorem ent_app : App entC := by
  intro x r r'
  unfold entC
  rw [list_app step_app, list_app comp_app, num_app, num_app]
/-- What a step, an entry is, that can be packed. -/
def StP (x : St) : Prop := NmP x.kd ∧ NmP x.id ∧ NmP x.nd ∧ NmP x.fr ∧ NmP (St.to x) ∧ (∀ k ∈ x.kids, NmP k) ∧ x.kids.length ≤ 140737488355328
def EnP (e : En) : Prop := NmP e.cl ∧ NmP e.sq ∧ (∀ c ∈ e.ed, CpP c) ∧ (∀ s ∈ e.dl, StP s) ∧ e.ed.length ≤ 140737488355328 ∧ e.dl.length ≤ 140737488355328
theorem step_split (x : St) : stepC x [] = numC x.kd [] ++ (numC x.id [] ++ (numC x.nd [] ++ (numC x.fr [] ++ (numC (St.to x) [] ++ listC numC x.kids [])))) := by
  unfold stepC
  rw [num_app.nil x.kd, num_app.nil x.id, num_app.nil x.nd, num_app.nil x.fr, num_app.nil (St.to x)]
theorem ent_split (e : En) : entC e [] = numC e.cl [] ++ (numC e.sq [] ++ (listC compC e.ed [] ++ (numC (e.dl.length : Int) [] ++ rowC stepC e.dl []))) := by
  unfold entC
  rw [num_app.nil e.cl, num_app.nil e.sq, (list_app comp_app).nil e.ed, list_split (f := stepC)]

end Go.Proofs.YtjmfjlffcopnnaaGreatDoor

namespace Go.Proofs.YtjmfjlffcopnnaaGreatDoor
open Go.RowKit

/-- A step as a value. -/
def stV (s : St) (kp : Option Addr) (kc : Nat) : Value := .agg #[.int .i64 s.kd, .int .i64 s.id, .int .i64 s.nd, .int .i64 s.fr, .int .i64 (St.to s), .slice kp s.kids.length kc]

end Go.Proofs.YtjmfjlffcopnnaaGreatDoor

namespace Go.Proofs.YtjmfjlffcopnnaaGreatDoor
open Go.RowKit
open Go.Proofs.YtjmfjlffcopnnaaGreatDoor.K (C RowC PieceAt MayP)

/-- An answer that is true where P holds. -/
def Tells (P : Prop) (w : World) (e : Ending) (w' : World) : Prop := Below w.heap.size w w' ∧ ((e = .returned (.bool true) ∧ P) ∨ (e = .returned (.bool false) ∧ ¬ P))
/-- An entry's own cells. -/
structure Ev where
  cl : Int
  sq : Int
  ep : Option Addr
  en : Nat
  ec : Nat
  dp : Option Addr
  dn : Nat
  dc : Nat
def Ev.ev (x : Ev) : Value := .slice x.ep x.en x.ec
def Ev.dv (x : Ev) : Value := .slice x.dp x.dn x.dc
def Ev.cells (x : Ev) : List Value := [.int .i64 x.cl, .int .i64 x.sq, x.ev, x.dv]
def lyE : Ly Ev where
  ty := 54
  sz := 4
  cells := Ev.cells
  len _ := rfl
  one t u hu := by
    simp [Ev.cells, Ev.ev, Ev.dv] at hu
    rcases hu with rfl | rfl | rfl | rfl <;> rfl
  pos := by decide
theorem info54 : (Tryz.prog.info? 54).map (fun i => (i.zero, i.size, i.bytes)) = some (some (.agg #[.int .i64 0, .int .i64 0, .slice none 0 0, .slice none 0 0]), 4, 64) := by kernel_rfl
theorem rowC_below {w w' : World} {p : Option Addr} {cs : List C} (h : RowC w p cs) (hb : Below w.heap.size w w') : RowC w' p cs := fun i c hi => by
  obtain ⟨b, o, hp, hat⟩ := h i c hi
  exact ⟨b, o, hp, cell_later hb hat.1, cell_later hb hat.2.1, cell_later hb hat.2.2⟩
/-- The entries of a slice, as they lie in memory, with their edits and their deltas. -/
def EntsR (w : World) (p : Option Addr) (es : List En) : Prop := ∀ (i : Nat) e, es[i]? = some e → ∃ b o ep ec dp dc, p = some ⟨b, o, none⟩ ∧ lyE.At w b (o + i * 4) ⟨e.cl, e.sq, ep, e.ed.length, ec, dp, e.dl.length, dc⟩ ∧ RowC w ep e.ed ∧ StepsR w dp e.dl
theorem EntsR.below {w w' : World} {p : Option Addr} {es : List En} (h : EntsR w p es) (hb : Below w.heap.size w w') : EntsR w' p es := fun i e hi => by
  obtain ⟨b, o, ep, ec, dp, dc, h1, h2, h3, h4⟩ := h i e hi
  exact ⟨b, o, ep, ec, dp, dc, h1, h2.below hb, rowC_below h3 hb, h4.below hb⟩
def EnMay (e : En) : Prop := 0 ≤ e.cl ∧ e.cl < 3 ∧ 1 ≤ e.sq ∧ e.sq ≤ 4096 ∧ MayP e.ed ∧ e.dl.length ≤ 8192 ∧ ∀ s ∈ e.dl, stepMay s = true

theorem tells_no {P : Prop} {w w' : World} (h : ¬ P) (hb : Below w.heap.size w w') : Tells P w (.returned (.bool false)) w' := ⟨hb, .inr ⟨rfl, h⟩⟩
theorem tells_yes {P : Prop} {w w' : World} (h : P) (hb : Below w.heap.size w w') : Tells P w (.returned (.bool true)) w' := ⟨hb, .inl ⟨rfl, h⟩⟩

end Go.Proofs.YtjmfjlffcopnnaaGreatDoor

namespace Go.Proofs.YtjmfjlffcopnnaaGreatDoor
open Go.RowKit
open Go.Proofs.YtjmfjlffcopnnaaGreatDoor.K (C RowC PieceAt MayP)

/-- Where a message's rows lie. -/
structure Mq where
  ep : Option Addr
  ec : Nat
  sp : Option Addr
  sc : Nat
  np : Option Addr
  nc : Nat
/-- A message as a value. -/
def msV (m : Ms) (q : Mq) : Value := .agg #[.int .i64 m.kd, .int .i64 m.cl, .int .i64 m.rv, .int .i64 m.sq, .int .i64 m.fr, .int .i64 m.ls, .bool m.rf, .slice q.ep m.ed.length q.ec, .slice q.sp m.es.length q.sc, .string m.tx, .int .i64 m.ro, .int .i64 m.nx, .slice q.np m.ns.length q.nc]
/-- Its cells in a box. -/
def msC (m : Ms) (q : Mq) : Obj := .cells #[.int .i64 m.kd, .int .i64 m.cl, .int .i64 m.rv, .int .i64 m.sq, .int .i64 m.fr, .int .i64 m.ls, .bool m.rf, .slice q.ep m.ed.length q.ec, .slice q.sp m.es.length q.sc, .string m.tx, .int .i64 m.ro, .int .i64 m.nx, .slice q.np m.ns.length q.nc] 28
structure MsR (w : World) (m : Ms) (q : Mq) : Prop where
  ed : RowC w q.ep m.ed
  es : EntsR w q.sp m.es
  ns : NodesR w q.np m.ns
theorem MsR.below {w w' : World} {m : Ms} {q : Mq} (h : MsR w m q) (hb : Below w.heap.size w w') : MsR w' m q := ⟨rowC_below h.ed hb, h.es.below hb, h.ns.below hb⟩
/-- No longer than a computer's memory. -/
structure MsZ (m : Ms) : Prop where
  ed : m.ed.length ≤ 140737488355328
  es : m.es.length ≤ 140737488355328
  ns : m.ns.length ≤ 140737488355328
  tx : m.tx.size ≤ 140737488355328
  kids : ∀ x ∈ m.ns, x.kids.length ≤ 140737488355328
  each : ∀ e ∈ m.es, e.ed.length ≤ 140737488355328 ∧ e.dl.length ≤ 140737488355328 ∧ ∀ s ∈ e.dl, s.kids.length ≤ 140737488355328
def MsHead (m : Ms) : Prop := 0 ≤ m.cl ∧ m.cl < 3 ∧ 0 ≤ m.rv ∧ m.rv ≤ 4096 ∧ 0 ≤ m.sq ∧ m.sq ≤ 4096
def MsBare (m : Ms) : Prop := m.fr = 0 ∧ m.ls = 0 ∧ m.rf = false ∧ m.tx = ⟨#[]⟩ ∧ m.ro = 0 ∧ m.nx = 0 ∧ m.ns.length = 0
def MsMay (m : Ms) : Prop := MsHead m ∧
  ((m.kd = 0 ∧ MsBare m ∧ m.es.length = 0 ∧ MayP m.ed ∧ (0 < m.sq ∨ m.ed.length = 0))
  ∨ (m.kd = 1 ∧ MsBare m ∧ m.ed.length = 0 ∧ m.sq = 0 ∧ m.es.length ≤ 3 ∧ ∀ e ∈ m.es, EnMay e)
  ∨ (m.kd = 2 ∧ m.es.length = 0 ∧ m.ed.length = 0 ∧ 0 ≤ m.fr ∧ m.fr ≤ 4096 ∧ 0 ≤ m.ls ∧ m.ls ≤ 4096 ∧ m.tx.size ≤ 300 ∧ mayB m.ns m.ro m.nx m.tx.size = true))

end Go.Proofs.YtjmfjlffcopnnaaGreatDoor

namespace Go.Proofs.YtjmfjlffcopnnaaGreatDoor
open Go.RowKit
open Go.Proofs.YtjmfjlffcopnnaaGreatDoor.K (C RowC PieceAt MayP)

end Go.Proofs.YtjmfjlffcopnnaaGreatDoor

namespace Go.Proofs.YtjmfjlffcopnnaaGreatDoor
open Go.RowKit
open Go.Proofs.YtjmfjlffcopnnaaGreatDoor.K (C RowC PieceAt MayP)

end Go.Proofs.YtjmfjlffcopnnaaGreatDoor

namespace Go.Proofs.YtjmfjlffcopnnaaGreatDoor
open Go.RowKit
open Go.Proofs.YtjmfjlffcopnnaaGreatDoor.K (C RowC PieceAt MayP)

end Go.Proofs.YtjmfjlffcopnnaaGreatDoor
