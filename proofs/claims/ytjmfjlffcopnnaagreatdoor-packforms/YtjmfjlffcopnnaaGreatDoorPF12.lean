/-
  RdT, Mp, Ext, My1, in one text. Conditions: as each theorem's premises say.
-/
import Derived.Test.YtjmfjlffcopnnaaGreatDoorPF10
import Derived.Test.YtjmfjlffcopnnaaGreatDoorPF11
import Derived.Carry
import Derived.Test.YtjmfjlffcopnnaaGreatDoorPF05
import Derived.BigQuiet
import Derived.Below
import Derived.WalkKit
import Derived.WalkSpells
namespace Go.Proofs.YtjmfjlffcopnnaaGreatDoor
open Go.RowKit

/-- The nodes of a slice, as they lie in memory, their children's rows too. -/
def NodesR (w : World) (p : Option Addr) (ns : List Nd) : Prop := ∀ (i : Nat) n, ns[i]? = some n → ∃ b o kp kc, p = some ⟨b, o, none⟩ ∧ lyN.At w b (o + i * 5) ⟨n.id, n.kd, n.fr, Nd.to n, kp, n.kids.length, kc⟩ ∧ lyI.Row w kp n.kids
theorem NodesR.below {w w' : World} {p : Option Addr} {ns : List Nd} (h : NodesR w p ns) (hb : Below w.heap.size w w') : NodesR w' p ns := fun i n hi => by
  obtain ⟨b, o, kp, kc, h1, h2, h3⟩ := h i n hi
  exact ⟨b, o, kp, kc, h1, h2.below hb, h3.below hb⟩
theorem OwnT.read {w : World} {base N cap : Nat} {p : Option Addr} {vs : List Nv} {ns : List Nd} (h : OwnT w base (.slice p N cap) vs ns) : NodesR w p ns := fun i n hi => by
  have hl : i < vs.length := by rw [h.len]; exact (List.getElem?_eq_some_iff.1 hi).1
  have hv := List.getElem?_eq_getElem hl
  obtain ⟨a, b, c, d, e⟩ := h.fit i _ n hv hi
  obtain ⟨g, o, hp, hat⟩ := h.row.row i _ hv
  generalize vs[i] = v at *
  obtain ⟨kp, kc, hkv⟩ := e.form
  obtain ⟨vid, vkd, vfr, vtt, vkp, vkn, vkc⟩ := v
  unfold Nv.kv at hkv e
  dsimp only at a b c d hkv e
  cases hkv
  subst a b c d
  exact ⟨g, o, kp, kc, hp, hat, e.row⟩
/-- A tree as a value. -/
def trV (root next : Int) (p : Option Addr) (n cap : Nat) : Value := .agg #[.int .i64 root, .int .i64 next, .slice p n cap]

def fdI (id : Int) : List Nd → Nat → Option Nat
  | [], _ => none
  | x :: r, i => if x.id = id then some i else fdI id r (i + 1)
/-- Where a node stands; -1: it is not there. -/
def fdZ (ns : List Nd) (id : Int) : Int := match fdI id ns 0 with
  | some i => (i : Int)
  | none => -1
theorem fd_some {id : Int} : ∀ {ns : List Nd} {i k : Nat}, fdI id ns i = some k → i ≤ k ∧ ∃ x, ns[k - i]? = some x ∧ x.id = id ∧ getN ns id = some x
  | [], _, _, h => by cases h
  | x :: r, i, k, h => by
    unfold fdI at h
    by_cases e : x.id = id
    · rw [if_pos e] at h
      cases h
      exact ⟨Nat.le_refl _, x, by simp, e, by simp [getN, e]⟩
    · rw [if_neg e] at h
      obtain ⟨h1, y, h2, h3, h4⟩ := fd_some h
      refine ⟨by omega, y, ?_, h3, ?_⟩
      · rw [show k - i = (k - (i + 1)) + 1 by omega, List.getElem?_cons_succ]; exact h2
      · unfold getN at h4 ⊢
        rw [List.find?_cons_of_neg (by simpa using e)]; exact h4
theorem fd_none {id : Int} : ∀ {ns : List Nd} {i : Nat}, fdI id ns i = none → getN ns id = none
  | [], _, _ => rfl
  | x :: r, i, h => by
    unfold fdI at h
    by_cases e : x.id = id
    · rw [if_pos e] at h; cases h
    · rw [if_neg e] at h
      unfold getN
      rw [List.find?_cons_of_neg (by simpa using e)]
      exact fd_none h
theorem fd_cases (ns : List Nd) (id : Int) : (∃ (k : Nat) (x : Nd), fdZ ns id = k ∧ ns[k]? = some x ∧ x.id = id ∧ getN ns id = some x) ∨ (fdZ ns id = -1 ∧ getN ns id = none) := by
  unfold fdZ
  cases h : fdI id ns 0 with
  | some k =>
    obtain ⟨-, x, h1, h2, h3⟩ := fd_some h
    exact .inl ⟨k, x, rfl, h1, h2, h3⟩
  | none => exact .inr ⟨rfl, fd_none h⟩
theorem drop_at {ns : List Nd} {i : Nat} {x : Nd} (h : ns[i]? = some x) : ns.drop i = x :: ns.drop (i + 1) := by
  obtain ⟨hl, he⟩ := List.getElem?_eq_some_iff.1 h
  rw [List.drop_eq_getElem_cons hl, he]

def RetBelow (e0 : Ending) (w : World) (e : Ending) (w' : World) : Prop := e = e0 ∧ Below w.heap.size w w'

set_option maxRecDepth 100000 in
set_option maxHeartbeats 1000000 in
theorem find_any (root next : Int) (p : Option Addr) (ns : List Nd) (N cap : Nat) (hN : ns.length = N) (id : Int) (w : World) (h : NodesR w p ns) (hl : N ≤ 140737488355328) : Calls Tryz.prog 99 #[trV root next p N cap, .int .i64 id] w (RetBelow (.returned (.int .i64 (fdZ ns id))) w) := by
  have R := Lib.hid h; clear h
  have HN := Lib.hid hN; clear hN
  unfold trV
  go_enter Tryz.func99, Tryz.ntmps99
  go_wp2_with fail
  go_loopw [5] (fun v wr => ∃ j : Nat, j ≤ N ∧ v = .int .i64 j ∧ wr = w.alloc (.cells #[.int .i64 root, .int .i64 next, .slice p N cap] 26) ∧ Hid (fdI id (ns.drop j) j = fdI id ns 0)) (fun v _ => N - (intOf v).toNat)
  case atStart => exact ⟨0, by omega, rfl, rfl, Lib.hid rfl⟩
  case round =>
    obtain ⟨j, hj, rfl, rfl, E⟩ := hrel
    by_cases hlt : j < N
    · obtain ⟨x, hx⟩ : ∃ x, ns[j]? = some x := ⟨_, List.getElem?_eq_getElem (by rw [HN.out]; exact hlt)⟩
      obtain ⟨b, o, kp, kc, rfl, hat, -⟩ := R.out j x hx
      have c0 : w.cell? ⟨b, o + j * 5, none⟩ = some (.int .i64 x.id) := hat 0 _ rfl
      have hbl := World.block_lt_of_cell? w ⟨b, o + j * 5, none⟩ c0
      have hi0 : (0 : Int) ≤ (j : Int) := by omega
      have hi1 : (j : Int) < (N : Int) := by omega
      have DA := Lib.hid (drop_at hx)
      clear hat hx
      by_cases he : x.id = id
      · have q : (x.id == id) = true := by simpa using he
        have F : Hid (fdZ ns id = (j : Int)) := Lib.hid (by unfold fdZ; rw [← E.out, DA.out]; simp [fdI, he])
        clear he
        go_wp2_with fail
        go_ret
        exact ⟨retI (by rw [F.out]), (Below.refl _ _).alloc (Nat.le_refl _) _⟩
      · have q : (x.id == id) = false := by simpa using he
        have E' : Hid (fdI id (ns.drop (j + 1)) (j + 1) = fdI id ns 0) := Lib.hid (by rw [← E.out, DA.out]; simp [fdI, he])
        clear he
        go_wp2_with fail
        go_roundw
        case rel => exact ⟨j + 1, by omega, by go_num, trivial, E'⟩
        case measure => simp [intOf]; omega
    · have F : Hid (fdZ ns id = -1) := Lib.hid (by
        unfold fdZ
        rw [← E.out, List.drop_eq_nil_of_le (by rw [HN.out]; omega)]; rfl)
      go_wp2_with fail
      go_ret
      exact ⟨retI (by rw [F.out]), (Below.refl _ _).alloc (Nat.le_refl _) _⟩

/-- Block b is a map with these entries, in this row. -/
def MapN (w : World) (b : Nat) (l : List (Int × Value)) : Prop := ∃ es clock, w.heap[b]? = some (.map es clock) ∧ es.toList.map (fun e => (e.key, e.val)) = l.map (fun q => (Value.int .i64 q.1, q.2))
/-- What is found under a key: where, and what. -/
def atK (k : Int) : List (Int × Value) → Nat → Option (Nat × Value)
  | [], _ => none
  | q :: r, i => if k = q.1 then some (i, q.2) else atK k r (i + 1)
theorem find_now (k : Int) : ∀ (es : List MapEntry) (l : List (Int × Value)) (i : Nat), es.map (fun e => (e.key, e.val)) = l.map (fun q => (Value.int .i64 q.1, q.2)) → Instr.findNow (.int .i64) (.int .i64 k) es i = some (atK k l i)
  | [], [], _, _ => rfl
  | [], _ :: _, _, h => by simp at h
  | _ :: _, [], _, h => by simp at h
  | e :: es, q :: l, i, h => by
    simp only [List.map_cons, List.cons.injEq, Prod.mk.injEq] at h
    obtain ⟨⟨h1, h2⟩, h3⟩ := h
    have ih := find_now k es l (i + 1) h3
    unfold Instr.findNow
    rw [h1]
    simp only [Instr.sameNow, if_true]
    by_cases hk : k = q.1
    · simp [atK, hk, h2]
    · have : (k == q.1) = false := by simpa using hk
      rw [this]
      simp only [atK, hk, if_false]
      exact ih

theorem u73 : Tryz.prog.underlying 133 = some (.map 3 109) := Tryz.underlying133
theorem u3 : Tryz.prog.underlying 3 = some (.int .i64) := Tryz.underlying3
theorem key_ok (k : Int) : MapKept.IsKey (.int .i64) (.int .i64 k) := by simp [MapKept.IsKey]
theorem check_ok (k : Int) (e : Bool) (w : World) : (Instr.checkKey e 10000 3 (.int .i64 k)).run Tryz.prog w = .ok () w := MapKept.run_checkKey u3 (key_ok k) e 9999
def noN5 : Value := .agg #[.int .i64 0, .int .i64 0, .int .i64 0, .int .i64 0, .slice none 0 0]

theorem lookup_some {w : World} {b : Nat} {l : List (Int × Value)} (h : MapN w b l) {k : Int} {i : Nat} {v : Value} (hk : atK k l 0 = some (i, v)) : (Instr.lookup 133 (.map (some b)) (.int .i64 k) true).run Tryz.prog w = .ok (.tuple #[v, .bool true]) w := by
  obtain ⟨es, clock, hb, he⟩ := h
  have hf := find_now k es.toList l 0 he
  rw [hk] at hf
  simp [Instr.lookup, run_underlying u73, MapKept.run_getObj_map hb, check_ok, MapKept.run_findKey u3 hf, Result.andThen]
theorem lookup_none {w : World} {b : Nat} {l : List (Int × Value)} (h : MapN w b l) {k : Int} (hk : atK k l 0 = none) : (Instr.lookup 133 (.map (some b)) (.int .i64 k) true).run Tryz.prog w = .ok (.tuple #[noN5, .bool false]) w := by
  obtain ⟨es, clock, hb, he⟩ := h
  have hf := find_now k es.toList l 0 he
  rw [hk] at hf
  simp [Instr.lookup, run_underlying u73, MapKept.run_getObj_map hb, check_ok, MapKept.run_findKey u3 hf, Result.andThen, Tryz.zeroValue109, noN5]
/-- A block written whole. -/
def setB (w : World) (b : Nat) (o : Obj) : World := { w with heap := w.heap.setIfInBounds b o }
theorem setB_grown (w : World) (b : Nat) (o : Obj) : w.grownBy (setB w b o) (some b) :=
  ⟨rfl, rfl, rfl, by simp [setB], fun k hk hne => by
    show (w.heap.setIfInBounds b o)[k]? = w.heap[k]?
    rw [Array.getElem?_setIfInBounds, if_neg (fun e => hne (by rw [e]))]⟩
/-- A new entry: what is there behind it. -/
theorem update_new {w : World} {b : Nat} {l : List (Int × Value)} (h : MapN w b l) {k : Int} (hk : atK k l 0 = none) (v : Value) : ∃ o, (Instr.mapUpdate 133 (.map (some b)) (.int .i64 k) v).run Tryz.prog w = .ok () (setB w b o) ∧ MapN (setB w b o) b (l ++ [(k, v)]) := by
  obtain ⟨es, clock, hb, he⟩ := h
  have hf := find_now k es.toList l 0 he
  rw [hk] at hf
  refine ⟨.map (es.push { key := .int .i64 k, val := v, born := clock }) (clock + 1), ?_, ?_⟩
  · simp [Instr.mapUpdate, run_underlying u73, MapKept.run_getObj_map hb, check_ok, MapKept.run_findKey u3 hf, MapKept.run_setObj_map _ hb, Result.andThen, setB]
  · refine ⟨_, _, (MapKept.heap_set hb).1, ?_⟩
    simp [he]
theorem erase_map {α β : Type} (f : α → β) : ∀ (l : List α) (i : Nat), (l.eraseIdx i).map f = (l.map f).eraseIdx i
  | [], _ => rfl
  | _ :: _, 0 => rfl
  | a :: l, i + 1 => by simp [erase_map f l i]
/-- An entry is struck. -/
theorem delete_some {w : World} {b : Nat} {l : List (Int × Value)} (h : MapN w b l) {k : Int} {i : Nat} {v : Value} (hk : atK k l 0 = some (i, v)) : ∃ o, (∀ ty, (Builtin.delete_ #[133, 3] ty #[.map (some b), .int .i64 k]).run Tryz.prog w = .ok (.tuple #[]) (setB w b o)) ∧ MapN (setB w b o) b (l.eraseIdx i) := by
  obtain ⟨es, clock, hb, he⟩ := h
  have hf := find_now k es.toList l 0 he
  rw [hk] at hf
  refine ⟨.map (es.eraseIdxIfInBounds i) clock, fun ty => ?_, ?_⟩
  · simp [Builtin.delete_, run_underlying u73, MapKept.run_getObj_map hb, check_ok, MapKept.run_findKey u3 hf, MapKept.run_setObj_map _ hb, Result.andThen, setB]
  · refine ⟨_, _, (MapKept.heap_set hb).1, ?_⟩
    rw [Array.toList_eraseIdxIfInBounds, erase_map, he, erase_map]
theorem len_is {w : World} {b : Nat} {l : List (Int × Value)} (h : MapN w b l) : (Builtin.len_ #[133] 3 #[.map (some b)]).run Tryz.prog w = .ok (.int .i64 l.length) w := by
  obtain ⟨es, clock, hb, he⟩ := h
  have hl : es.size = l.length := by
    have := congrArg List.length he
    simpa using this
  simp [Builtin.len_, run_underlying u73, MapKept.run_getObj_map hb, Result.andThen, hl]
  rfl
/-- A node as a value, its children's slice at kp. -/
def ndV (n : Nd) (kp : Option Addr) (kc : Nat) : Value := .agg #[.int .i64 n.id, .int .i64 n.kd, .int .i64 n.fr, .int .i64 (Nd.to n), .slice kp n.kids.length kc]
/-- Entries for these nodes, in their row, each under its id. -/
structure EntN (w : World) (l : List (Int × Value)) (ns : List Nd) : Prop where
  len : l.length = ns.length
  ent : ∀ (i : Nat) n, ns[i]? = some n → ∃ kp kc, l[i]? = some (n.id, ndV n kp kc) ∧ lyI.Row w kp n.kids
theorem EntN.below {w w' : World} {l : List (Int × Value)} {ns : List Nd} (h : EntN w l ns) (hb : Below w.heap.size w w') : EntN w' l ns := ⟨h.len, fun i n hi => by
  obtain ⟨kp, kc, h1, h2⟩ := h.ent i n hi
  exact ⟨kp, kc, h1, h2.below hb⟩⟩
theorem EntN.snoc {w : World} {l : List (Int × Value)} {ns : List Nd} (h : EntN w l ns) (n : Nd) (kp : Option Addr) (kc : Nat) (hr : lyI.Row w kp n.kids) : EntN w (l ++ [(n.id, ndV n kp kc)]) (ns ++ [n]) := ⟨by simp [h.len], fun i m hi => by
  by_cases hl : i < ns.length
  · rw [List.getElem?_append_left hl] at hi
    obtain ⟨kp', kc', h1, h2⟩ := h.ent i m hi
    exact ⟨kp', kc', by rw [List.getElem?_append_left (by rw [h.len]; exact hl)]; exact h1, h2⟩
  · have : i = ns.length := by
      have := (List.getElem?_eq_some_iff.1 hi).1
      simp at this; omega
    subst this
    rw [List.getElem?_append_right (Nat.le_refl _), Nat.sub_self] at hi
    simp at hi
    subst hi
    exact ⟨kp, kc, by rw [List.getElem?_append_right (by rw [h.len]; exact Nat.le_refl _), h.len, Nat.sub_self]; rfl, hr⟩⟩
theorem atK_none : ∀ {l : List (Int × Value)} {k : Int} {i : Nat}, (∀ q ∈ l, q.1 ≠ k) → atK k l i = none
  | [], _, _, _ => rfl
  | q :: r, k, i, h => by
    unfold atK
    rw [if_neg (fun e => h q (by simp) e.symm)]
    exact atK_none (fun q' hq => h q' (by simp [hq]))
theorem EntN.ids {w : World} {l : List (Int × Value)} {ns : List Nd} (h : EntN w l ns) {q : Int × Value} (hq : q ∈ l) : ∃ n ∈ ns, n.id = q.1 := by
  obtain ⟨i, hi, e⟩ := List.getElem_of_mem hq
  have hn : i < ns.length := by rw [← h.len]; exact hi
  obtain ⟨kp, kc, h1, -⟩ := h.ent i _ (List.getElem?_eq_getElem hn)
  rw [List.getElem?_eq_getElem hi, e] at h1
  exact ⟨_, List.getElem_mem hn, by rw [Option.some.inj h1]⟩
theorem EntN.new {w : World} {l : List (Int × Value)} {ns : List Nd} (h : EntN w l ns) {k : Int} (hk : ∀ n ∈ ns, n.id ≠ k) : atK k l 0 = none := atK_none (fun q hq => by
  obtain ⟨n, hn, e⟩ := h.ids hq
  rw [← e]; exact hk n hn)
theorem made_is (w : World) : MapN (w.alloc (.map #[] 0)) w.heap.size [] := ⟨#[], 0, (MapKept.heap_alloc w _).1, rfl⟩
theorem MapN.below {w w' : World} {b : Nat} {l : List (Int × Value)} (h : MapN w b l) (hb : Below w.heap.size w w') : MapN w' b l := by
  obtain ⟨es, clock, h1, h2⟩ := h
  exact ⟨es, clock, (hb.block b (Array.getElem?_eq_some_iff.1 h1).1).trans h1, h2⟩
theorem MapN.kept {w w' : World} {b g : Nat} {l : List (Int × Value)} (h : MapN w b l) (hg : w.grownBy w' (some g)) (hne : g ≠ b) : MapN w' b l := by
  obtain ⟨es, clock, h1, h2⟩ := h
  exact ⟨es, clock, (hg.block b (Array.getElem?_eq_some_iff.1 h1).1 (fun e => hne (Option.some.inj e).symm)).trans h1, h2⟩

theorem take_new {ns : List Nd} (hr : risesB ns = true) {j : Nat} {x : Nd} (hx : ns[j]? = some x) : ∀ n ∈ ns.take j, n.id ≠ x.id := by
  have hn := rises_nodup hr
  obtain ⟨h1, hl⟩ := split_at hx
  rw [h1, List.map_append, List.map_cons] at hn
  intro n hnn e
  rw [List.nodup_append] at hn
  exact hn.2.2 n.id (List.mem_map.2 ⟨n, hnn, rfl⟩) x.id (by simp) e

/-- What byId answers. -/
def ByPost (ns : List Nd) (w : World) (e : Ending) (w' : World) : Prop := ∃ b l, e = .returned (.map (some b)) ∧ MapN w' b l ∧ EntN w' l ns ∧ w.heap.size ≤ b ∧ Below w.heap.size w w'

theorem run_mk (n : Int) (w : World) : (Instr.makeMap 133 (some (.int .i64 n))).run Tryz.prog w = .ok (.map (some w.heap.size)) (w.alloc (.map #[] 0)) := by
  simp [Instr.makeMap, run_underlying u73]; rfl
set_option maxRecDepth 100000 in
set_option maxHeartbeats 1000000 in
theorem byId_any (p : Option Addr) (ns : List Nd) (N cap : Nat) (hN : ns.length = N) (hl : N ≤ 4096) (hr : risesB ns = true) (w : World) (h : NodesR w p ns) : Calls Tryz.prog 94 #[.slice p N cap] w (ByPost ns w) := by
  have R := Lib.hid h; have HN := Lib.hid hN; have RI := Lib.hid hr
  clear h hN hr
  have MK := run_mk (N : Int) w
  go_enter Tryz.func94, Tryz.ntmps94
  go_wp2_with fail
  have START : Hid (MapN (w.alloc (.map #[] 0)) w.heap.size []) := Lib.hid (made_is w)
  have B0 : Hid (Below w.heap.size w (w.alloc (.map #[] 0))) := Lib.hid ((Below.refl _ _).alloc (Nat.le_refl _) _)
  generalize w.alloc (.map #[] 0) = w1 at START B0 ⊢
  clear MK
  go_loopw [11] (fun v wr => ∃ (j : Nat) (l : List (Int × Value)), j ≤ N ∧ v = .int .i64 j ∧ Hid (MapN wr w.heap.size l) ∧ Hid (EntN w l (ns.take j)) ∧ Hid (Below w.heap.size w wr)) (fun v _ => N - (intOf v).toNat)
  case atStart => exact ⟨0, [], by omega, rfl, START, Lib.hid ⟨rfl, fun i n hi => by simp at hi⟩, B0⟩
  case round =>
    clear START B0
    obtain ⟨j, l, hj, rfl, M, E, B⟩ := hrel
    by_cases hlt : j < N
    · obtain ⟨x, hx⟩ : ∃ x, ns[j]? = some x := ⟨_, List.getElem?_eq_getElem (by rw [HN.out]; exact hlt)⟩
      obtain ⟨b, o, kp, kc, rfl, hat, hrow⟩ := R.out j x hx
      have n0 : wr.cell? ⟨b, o + j * 5, none⟩ = some (.int .i64 x.id) := cell_later B.out (hat 0 _ rfl)
      have n1 : wr.cell? ⟨b, o + j * 5 + 1, none⟩ = some (.int .i64 x.kd) := cell_later B.out (hat 1 _ rfl)
      have n2 : wr.cell? ⟨b, o + j * 5 + 2, none⟩ = some (.int .i64 x.fr) := cell_later B.out (hat 2 _ rfl)
      have n3 : wr.cell? ⟨b, o + j * 5 + 3, none⟩ = some (.int .i64 (Nd.to x)) := cell_later B.out (hat 3 _ rfl)
      have n4 : wr.cell? ⟨b, o + j * 5 + 4, none⟩ = some (.slice kp x.kids.length kc) := cell_later B.out (hat 4 _ rfl)
      have hi0 : (0 : Int) ≤ (j : Int) := by omega
      have hi1 : (j : Int) < (N : Int) := by omega
      have BA := Lib.hid (show Below wr.heap.size wr (wr.alloc (.cells #[.int .i64 x.id, .int .i64 x.kd, .int .i64 x.fr, .int .i64 (Nd.to x), .slice kp x.kids.length kc] 109)) from (Below.refl _ _).alloc (Nat.le_refl _) _)
      obtain ⟨ob, hU, hM⟩ := update_new (M.out.below BA.out) (E.out.new (take_new RI.out hx)) (ndV x kp kc)
      unfold ndV at hU
      have HM := Lib.hid hM
      have E2 : Hid (EntN w (l ++ [(x.id, ndV x kp kc)]) (ns.take (j + 1))) := Lib.hid (by
        rw [List.take_add_one, hx]
        exact E.out.snoc x kp kc hrow)
      clear hat hrow hx hM
      go_wp2_with fail
      go_roundw
      case rel =>
        refine ⟨j + 1, _, by omega, by go_num, HM, E2, Lib.hid ?_⟩
        have hb := B.out.trans (BA.out.mono B.out.size)
        exact hb.trans (below_grown (setB_grown _ _ ob) (Nat.le_refl _) hb.size)
      case measure => simp [intOf]; omega
    · have E' : Hid (EntN w l ns) := Lib.hid (by have := E.out; rwa [List.take_of_length_le (by rw [HN.out]; omega)] at this)
      go_wp2_with fail
      go_ret
      exact ⟨_, l, rfl, M.out, E'.out.below B.out, Nat.le_refl _, B.out⟩

/-- A world in which all that was there in w is as it was. -/
def Ext (w : World) : Type := { W : World // Below w.heap.size w W }
instance (w : World) : Nonempty (Ext w) := ⟨⟨w, Below.refl _ _⟩⟩
def Ext.w {w : World} (X : Ext w) : World := X.1
theorem Ext.below {w : World} (X : Ext w) : Below w.heap.size w X.w := X.2
theorem Ext.cell {w : World} {a : Addr} {v : Value} (h : w.cell? a = some v) (X : Ext w) : X.w.cell? a = some v := (X.below.cell (p := a) (World.block_lt_of_cell? w a h)).trans h
theorem wp_region_ext {P : Program} {id : Nat} {Q : Exit → Act → World → Prop} {a : Act} {w : World} {l : List Oper} (hm : P.follows .mixedOrders = true) (hB : Region.lexB .any l.toArray = true)
    (h : wpQuiet P l.toArray (fun w' => ∃ X : Ext w, w' = X.w) (fun a' => ∀ w', (∃ X : Ext w, w' = X.w) → Q .normal a' w') l a) : (Code.region id l.toArray true).wp P Q a w :=
  wp_region_quiet (C := fun w' => ∃ X : Ext w, w' = X.w) hm hB ⟨⟨{ w with drawn := w.drawn + 1 }, ⟨rfl, rfl, rfl, Nat.le_refl _, fun _ _ => rfl⟩⟩, rfl⟩ (by simpa using h)
theorem Ext.calls {P : Program} {f : FuncId} {args : Array Value} {w : World} {X : Ext w} {v : Value} (h : Calls P f args X.w fun e w' => e = .returned v ∧ Below X.w.heap.size X.w w') :
    Calls P f args X.w fun e w'' => e = .returned v ∧ ∃ Y : Ext w, w'' = Y.w :=
  h.mono fun _ w'' ⟨he, hb⟩ => ⟨he, ⟨w'', X.below.trans (hb.mono X.below.size)⟩, rfl⟩

def belowK (k : Int) : Bool := decide (0 < k) && decide (k ≤ 7)
set_option maxRecDepth 100000 in
set_option maxHeartbeats 400000 in
theorem holds_any (k : Int) (w : World) : Calls Tryz.prog 130 #[.int .i64 k] w fun e w' => e = .returned (.bool (!leafK k)) ∧ w = w' := by
  go_enter Tryz.func130, Tryz.ntmps130
  go_wp2
  all_goals
    go_ret
    exact ⟨retB (by rw [Bool.eq_iff_iff]; simp_all [leafK]), rfl⟩
set_option maxRecDepth 100000 in
set_option maxHeartbeats 400000 in
theorem belowK_any (k : Int) (w : World) : Calls Tryz.prog 131 #[.int .i64 k] w fun e w' => e = .returned (.bool (belowK k)) ∧ w = w' := by
  go_enter Tryz.func131, Tryz.ntmps131
  go_wp2
  all_goals
    go_ret
    exact ⟨retB (by rw [Bool.eq_iff_iff]; first | (simp_all [belowK]; done) | (simp_all [belowK]; omega)), rfl⟩
/-- Do ids rise from behind a number on; which is the last? -/
def upF : Int → List Nd → Option Int
  | last, [] => some last
  | last, x :: r => if x.id ≤ last then none else upF x.id r
def numB (ns : List Nd) (next : Int) : Bool := decide (1 ≤ ns.length) && decide (ns.length ≤ 2048) && decide (next ≤ 16777216) && (match upF (-1) ns with | some l => decide (l < next) | none => false)

set_option maxRecDepth 100000 in
set_option maxHeartbeats 1000000 in
theorem numbered_any (root next : Int) (p : Option Addr) (ns : List Nd) (N cap : Nat) (hN : ns.length = N) (w : World) (h : NodesR w p ns) (hl : N ≤ 140737488355328) : Calls Tryz.prog 93 #[trV root next p N cap] w (RetBelow (.returned (.bool (numB ns next))) w) := by
  have R := Lib.hid h; have HN := Lib.hid hN
  clear h hN
  unfold trV
  have NB : Hid (numB ns next = (decide (1 ≤ N) && decide (N ≤ 2048) && decide (next ≤ 16777216) && (match upF (-1) ns with | some l => decide (l < next) | none => false))) := Lib.hid (by unfold numB; rw [HN.out])
  by_cases h1 : N = 0
  · have F : Hid (numB ns next = false) := Lib.hid (by rw [NB.out, h1]; rfl)
    have q : ((N : Int) == 0) = true := by simp; omega
    subst h1
    go_enter Tryz.func93, Tryz.ntmps93
    go_wp2_with fail
    go_ret
    exact ⟨retB (by rw [F.out]), (Below.refl _ _).alloc (Nat.le_refl _) _⟩
  · have q1 : ((N : Int) == 0) = false := by simp; omega
    have q1' : (N == 0) = false := by simp; omega
    by_cases h2 : 2048 < N
    · have F : Hid (numB ns next = false) := Lib.hid (by rw [NB.out, decide_eq_false (show ¬ N ≤ 2048 by omega)]; simp)
      go_enter Tryz.func93, Tryz.ntmps93
      go_wp2_with fail
      go_ret
      exact ⟨retB (by rw [F.out]), (Below.refl _ _).alloc (Nat.le_refl _) _⟩
    · by_cases h3 : 16777216 < next
      · have F : Hid (numB ns next = false) := Lib.hid (by rw [NB.out, decide_eq_false (show ¬ next ≤ 16777216 by omega)]; simp)
        go_enter Tryz.func93, Tryz.ntmps93
        go_wp2_with fail
        go_ret
        exact ⟨retB (by rw [F.out]), (Below.refl _ _).alloc (Nat.le_refl _) _⟩
      · have NB2 : Hid (numB ns next = (match upF (-1) ns with | some l => decide (l < next) | none => false)) := Lib.hid (by
          rw [NB.out, decide_eq_true (show 1 ≤ N by omega), decide_eq_true (show N ≤ 2048 by omega), decide_eq_true (show next ≤ 16777216 by omega)]; rfl)
        clear NB
        go_enter Tryz.func93, Tryz.ntmps93
        go_wp2_with fail
        go_loopw [3, 24] (fun s v wr => ∃ (j : Nat) (last : Int), j ≤ N ∧ v = .int .i64 j ∧ s = .int .i64 last ∧ Hid (upF last (ns.drop j) = upF (-1) ns) ∧ Hid (Below w.heap.size w wr) ∧ Hid (wr.heap[w.heap.size]? = some (.cells #[.int .i64 root, .int .i64 next, .slice p N cap] 26 (0, 0)))) (fun _ v _ => N - (intOf v).toNat)
        case atStart => exact ⟨0, -1, by omega, rfl, rfl, Lib.hid rfl, Lib.hid ((Below.refl _ _).alloc (Nat.le_refl _) _), Lib.hid (heap_alloc_new w _)⟩
        case round =>
          obtain ⟨j, last, hj, rfl, rfl, U, B, BX⟩ := hrel
          have x1 := (obj_cells BX.out).1 1 _ rfl
          by_cases hlt : j < N
          · obtain ⟨x, hx⟩ : ∃ x, ns[j]? = some x := ⟨_, List.getElem?_eq_getElem (by rw [HN.out]; exact hlt)⟩
            obtain ⟨b, o, kp, kc, rfl, hat, -⟩ := R.out j x hx
            have n0 : wr.cell? ⟨b, o + j * 5, none⟩ = some (.int .i64 x.id) := cell_later B.out (hat 0 _ rfl)
            have n1 : wr.cell? ⟨b, o + j * 5 + 1, none⟩ = some (.int .i64 x.kd) := cell_later B.out (hat 1 _ rfl)
            have n2 : wr.cell? ⟨b, o + j * 5 + 2, none⟩ = some (.int .i64 x.fr) := cell_later B.out (hat 2 _ rfl)
            have n3 : wr.cell? ⟨b, o + j * 5 + 3, none⟩ = some (.int .i64 (Nd.to x)) := cell_later B.out (hat 3 _ rfl)
            have n4 : wr.cell? ⟨b, o + j * 5 + 4, none⟩ = some (.slice kp x.kids.length kc) := cell_later B.out (hat 4 _ rfl)
            have hi0 : (0 : Int) ≤ (j : Int) := by omega
            have hi1 : (j : Int) < (N : Int) := by omega
            have DA := Lib.hid (drop_at hx)
            clear hat hx
            have BA := Lib.hid (show Below wr.heap.size wr (wr.alloc (.cells #[.int .i64 x.id, .int .i64 x.kd, .int .i64 x.fr, .int .i64 (Nd.to x), .slice kp x.kids.length kc] 109)) from (Below.refl _ _).alloc (Nat.le_refl _) _)
            by_cases he : x.id ≤ last
            · have F : Hid (numB ns next = false) := Lib.hid (by rw [NB2.out, ← U.out, DA.out]; simp [upF, he])
              go_wp2_with fail
              go_ret
              exact ⟨retB (by rw [F.out]), B.out.trans (BA.out.mono B.out.size)⟩
            · have U' : Hid (upF x.id (ns.drop (j + 1)) = upF (-1) ns) := Lib.hid (by rw [← U.out, DA.out]; simp [upF, he])
              go_wp2_with fail
              go_roundw
              case rel => exact ⟨j + 1, x.id, by omega, by go_num, rfl, U', Lib.hid (B.out.trans (BA.out.mono B.out.size)), Lib.hid ((BA.out.block _ (Array.getElem?_eq_some_iff.1 BX.out).1).trans BX.out)⟩
              case measure => simp [intOf]; omega
          · have F : Hid (numB ns next = decide (last < next)) := Lib.hid (by
              rw [NB2.out, ← U.out, List.drop_eq_nil_of_le (by rw [HN.out]; omega)]; rfl)
            go_wp2_with fail
            go_ret
            exact ⟨retB (by rw [F.out]), B.out⟩

end Go.Proofs.YtjmfjlffcopnnaaGreatDoor
