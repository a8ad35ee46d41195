/-
  MpS, Itr, Apq, in one text. Conditions: as each theorem's premises say.
-/
import Derived.Test.YtdhkjhdbaofdcaaMpA
import Derived.RangeFuncGives
import Derived.Maps.AppendAt
import Derived.Sort.MapsRangeIn
import Derived.Maps.RangeRun
import Derived.Shelf.AbstractIn
import Derived.WalkKit
import Derived.OwnWalkIn
import Derived.TacticsInMore
import Derived.RegionIn
import Derived.LoopNIn
import Derived.LoopIn
import Derived.Shelf.Abstract
import Derived.Test.YtdhkjhdbaofdcaaRw4
namespace Go.Proofs.Ytdhkjhdbaofdcaa
open Go.RowKit

/-- A node's cells, as a value. -/
def vN (v : Nv) : Value := .agg #[.int .i64 v.id, .int .i64 v.kd, .int .i64 v.fr, .int .i64 v.tt, .slice v.kp v.kn v.kc]
theorem vN_inj {a b : Nv} (h : vN a = vN b) : a = b := by
  obtain ⟨a1, a2, a3, a4, a5, a6, a7⟩ := a
  obtain ⟨b1, b2, b3, b4, b5, b6, b7⟩ := b
  simp [vN] at h
  obtain ⟨rfl, rfl, rfl, rfl, rfl, rfl, rfl⟩ := h
  rfl
def kvN (v : Nv) : Int × Value := (v.id, vN v)
/-- Block b is a map with these nodes, each under its id. -/
structure MapE (w : World) (b : Nat) (es : Array MapEntry) (clock : Nat) (l : List Nv) : Prop where
  at' : w.heap[b]? = some (.map es clock)
  ent : es.toList.map (fun e => (e.key, e.val)) = (l.map kvN).map (fun q => (Value.int .i64 q.1, q.2))
  old : ∀ x ∈ es.toList, x.born < clock
  nod : (es.toList.map (·.born)).Nodup
def MapS (w : World) (b : Nat) (l : List Nv) : Prop := ∃ es clock, MapE w b es clock l
theorem MapS.n {w : World} {b : Nat} {l : List Nv} (h : MapS w b l) : MapN w b (l.map kvN) := by
  obtain ⟨es, c, h⟩ := h
  exact ⟨es, c, h.at', h.ent⟩
theorem MapS.lt {w : World} {b : Nat} {l : List Nv} (h : MapS w b l) : b < w.heap.size := by
  obtain ⟨es, c, h⟩ := h
  exact (Array.getElem?_eq_some_iff.1 h.at').1
theorem MapS.below {w w' : World} {b : Nat} {l : List Nv} (h : MapS w b l) (hb : Below w.heap.size w w') : MapS w' b l := by
  have hl := h.lt
  obtain ⟨es, c, h⟩ := h
  exact ⟨es, c, (hb.block b hl).trans h.at', h.ent, h.old, h.nod⟩
theorem MapS.kept {w w' : World} {b : Nat} {l : List Nv} {row : Option Nat} (h : MapS w b l) (hg : w.grownBy w' row) (hne : row ≠ some b) : MapS w' b l := by
  have hl := h.lt
  obtain ⟨es, c, h⟩ := h
  exact ⟨es, c, (hg.block b hl (fun e => hne e.symm)).trans h.at', h.ent, h.old, h.nod⟩
theorem mapS_made (w : World) : MapS (w.alloc (.map #[] 0)) w.heap.size [] := ⟨#[], 0, (MapKept.heap_alloc w _).1, rfl, fun x hx => by simp at hx, by simp⟩
/-- Is there a node of this id; where? -/
theorem at_cases (k : Int) : ∀ (l : List Nv) (i : Nat), (∃ (j : Nat) (v : Nv), l[j]? = some v ∧ v.id = k ∧ atK k (l.map kvN) i = some (i + j, vN v)) ∨ ((∀ v ∈ l, v.id ≠ k) ∧ atK k (l.map kvN) i = none)
  | [], _ => .inr ⟨fun v hv => by simp at hv, rfl⟩
  | v :: r, i => by
    by_cases hv : k = v.id
    · exact .inl ⟨0, v, rfl, hv.symm, by simp [atK, kvN, hv]⟩
    · rcases at_cases k r (i + 1) with ⟨j, u, h1, h2, h3⟩ | ⟨h1, h2⟩
      · refine .inl ⟨j + 1, u, by simpa using h1, h2, ?_⟩
        show (if k = v.id then _ else atK k (r.map kvN) (i + 1)) = _
        rw [if_neg hv, h3, show i + 1 + j = i + (j + 1) by omega]
      · refine .inr ⟨fun u hu => ?_, ?_⟩
        · rcases List.mem_cons.1 hu with rfl | hu
          · exact fun e => hv e.symm
          · exact h1 u hu
        · show (if k = v.id then _ else atK k (r.map kvN) (i + 1)) = _
          rw [if_neg hv, h2]
theorem mapS_look {w : World} {b : Nat} {l : List Nv} (h : MapS w b l) {k : Int} {j : Nat} {v : Nv} (hk : atK k (l.map kvN) 0 = some (j, vN v)) : (Instr.lookup 83 (.map (some b)) (.int .i64 k) true).run Try.prog w = .ok (.tuple #[vN v, .bool true]) w := lookup_some h.n hk
theorem mapS_lack {w : World} {b : Nat} {l : List Nv} (h : MapS w b l) {k : Int} (hk : atK k (l.map kvN) 0 = none) : (Instr.lookup 83 (.map (some b)) (.int .i64 k) true).run Try.prog w = .ok (.tuple #[noN5, .bool false]) w := lookup_none h.n hk
theorem mapS_new {w : World} {b : Nat} {l : List Nv} (h : MapS w b l) (v : Nv) (hk : atK v.id (l.map kvN) 0 = none) : ∃ o, (Instr.mapUpdate 83 (.map (some b)) (.int .i64 v.id) (vN v)).run Try.prog w = .ok () (setB w b o) ∧ MapS (setB w b o) b (l ++ [v]) := by
  obtain ⟨es, clock, hb, he, ho, hn⟩ := h
  have hf := find_now v.id es.toList _ 0 he
  rw [hk] at hf
  refine ⟨.map (es.push { key := .int .i64 v.id, val := vN v, born := clock }) (clock + 1), ?_, es.push { key := .int .i64 v.id, val := vN v, born := clock }, clock + 1, (MapKept.heap_set hb).1, ?_, ?_, ?_⟩
  · simp [Instr.mapUpdate, run_underlying u73, MapKept.run_getObj_map hb, check_ok, MapKept.run_findKey u3 hf, MapKept.run_setObj_map _ hb, Result.andThen, setB]
  · rw [Array.toList_push, List.map_append, he, List.map_append, List.map_append]; rfl
  · intro x hx
    rw [Array.toList_push] at hx
    rcases List.mem_append.1 hx with hx | hx
    · have := ho x hx; omega
    · simp at hx; subst hx; exact Nat.lt_succ_self _
  · rw [Array.toList_push, List.map_append, List.nodup_append]
    refine ⟨hn, by simp, ?_⟩
    intro a ha c hc e
    obtain ⟨x, hx, rfl⟩ := List.mem_map.1 ha
    simp at hc
    have := ho x hx
    omega
theorem get_ent {es : List MapEntry} {l : List Nv} {j : Nat} {v : Nv} (he : es.map (fun e => (e.key, e.val)) = (l.map kvN).map (fun q => (Value.int .i64 q.1, q.2))) (hj : l[j]? = some v) : ∃ e, es[j]? = some e ∧ e.key = .int .i64 v.id ∧ e.val = vN v := by
  have h := congrArg (fun (x : List (Value × Value)) => x[j]?) he
  simp only [List.getElem?_map, hj, Option.map_some] at h
  cases h2 : es[j]? with
  | none => rw [h2] at h; cases h
  | some e =>
    rw [h2] at h
    simp only [Option.map_some, Option.some.injEq, Prod.mk.injEq] at h
    exact ⟨e, rfl, h.1, h.2⟩
theorem list_modify_set {α : Type} (f : α → α) : ∀ (l : List α) (j : Nat) (e : α), l[j]? = some e → l.modify j f = l.set j (f e)
  | [], _, _, h => by simp at h
  | a :: l, 0, e, h => by simp at h; subst h; rfl
  | a :: l, j + 1, e, h => by
    rw [List.getElem?_cons_succ] at h
    rw [List.modify_succ_cons, List.set_cons_succ, list_modify_set f l j e h]
theorem mapS_old {w : World} {b : Nat} {l : List Nv} (h : MapS w b l) (v u : Nv) {j : Nat} (hu : u.id = v.id) (hj : l[j]? = some u) (hk : atK v.id (l.map kvN) 0 = some (j, vN u)) : ∃ o, (Instr.mapUpdate 83 (.map (some b)) (.int .i64 v.id) (vN v)).run Try.prog w = .ok () (setB w b o) ∧ MapS (setB w b o) b (l.set j v) := by
  obtain ⟨es, clock, hb, he, ho, hn⟩ := h
  have hf := find_now v.id es.toList _ 0 he
  rw [hk] at hf
  obtain ⟨e, h1, h2, h3⟩ := get_ent he hj
  have h1' : es[j]? = some e := by rw [← Array.getElem?_toList]; exact h1
  have hm : (es.modify j fun e => { e with key := .int .i64 v.id, val := vN v }).toList = es.toList.set j { e with key := .int .i64 v.id, val := vN v } := by
    rw [Array.toList_modify, list_modify_set _ _ _ e h1]
  refine ⟨.map (es.modify j fun e => { e with key := .int .i64 v.id, val := vN v }) clock, ?_, es.modify j fun e => { e with key := .int .i64 v.id, val := vN v }, clock, (MapKept.heap_set hb).1, ?_, ?_, ?_⟩
  · have st : (Instr.keyThatStays (.int .i64 v.id) (.int .i64 v.id)).run Try.prog w = .ok (.int .i64 v.id) w := MapKept.run_keyThatStays (key_ok v.id)
    simp [Instr.mapUpdate, run_underlying u73, MapKept.run_getObj_map hb, check_ok, MapKept.run_findKey u3 hf, MapKept.run_setObj_map _ hb, Result.andThen, setB, h1', h2, hu, st]
  · rw [hm, List.map_set, he, List.map_set, List.map_set]; rfl
  · intro x hx
    rw [hm] at hx
    rcases List.mem_or_eq_of_mem_set hx with hx | rfl
    · exact ho x hx
    · exact ho e (List.mem_of_getElem? h1)
  · rw [hm, List.map_set]
    have e0 : (es.toList.map (·.born)).set j e.born = es.toList.map (·.born) := by
      obtain ⟨hl, hx⟩ := List.getElem?_eq_some_iff.1 h1
      have : (es.toList.map (·.born))[j]? = some e.born := by simp [List.getElem?_map, h1]
      obtain ⟨hl2, hx2⟩ := List.getElem?_eq_some_iff.1 this
      conv => lhs; rw [← hx2]
      exact List.set_getElem_self hl2
    show ((es.toList.map (·.born)).set j e.born).Nodup
    rw [e0]
    exact hn
theorem mapS_drop {w : World} {b : Nat} {l : List Nv} (h : MapS w b l) {k : Int} {j : Nat} {v : Value} (hk : atK k (l.map kvN) 0 = some (j, v)) : ∃ o, (∀ ty, (Builtin.delete_ #[83, 3] ty #[.map (some b), .int .i64 k]).run Try.prog w = .ok (.tuple #[]) (setB w b o)) ∧ MapS (setB w b o) b (l.eraseIdx j) := by
  obtain ⟨es, clock, hb, he, ho, hn⟩ := h
  have hf := find_now k es.toList _ 0 he
  rw [hk] at hf
  refine ⟨.map (es.eraseIdxIfInBounds j) clock, fun ty => ?_, es.eraseIdxIfInBounds j, clock, (MapKept.heap_set hb).1, ?_, ?_, ?_⟩
  · simp [Builtin.delete_, run_underlying u73, MapKept.run_getObj_map hb, check_ok, MapKept.run_findKey u3 hf, MapKept.run_setObj_map _ hb, Result.andThen, setB]
  · rw [Array.toList_eraseIdxIfInBounds, erase_map, he, ← erase_map, ← erase_map]
  · intro x hx
    rw [Array.toList_eraseIdxIfInBounds] at hx
    exact ho x (List.mem_of_mem_eraseIdx hx)
  · rw [Array.toList_eraseIdxIfInBounds, erase_map]
    exact (List.eraseIdx_sublist _ _).nodup hn

/-! A range over it -/
/-- The nodes that have come, ds, in their row; the iterator lies at r. -/
structure RngS (w : World) (b r : Nat) (es : Array MapEntry) (clock : Nat) (ds : List MapEntry) : Prop where
  mp : w.heap[b]? = some (.map es clock)
  it : w.heap[r]? = some (.mapIter (some b) clock (ds.map (·.born)).toArray clock)
  sub : ∀ e ∈ ds, e ∈ es.toList
  nod : (ds.map (·.born)).Nodup
theorem RngS.walks {w w' : World} {b r : Nat} {es : Array MapEntry} {clock : Nat} {ds : List MapEntry} (h : RngS w b r es clock ds) (hk : KeepsWalks w w') : RngS w' b r es clock ds :=
  ⟨hk.same b _ h.mp rfl, hk.same r _ h.it rfl, h.sub, h.nod⟩
theorem nodup_of_map {α β : Type} (f : α → β) : ∀ {l : List α}, (l.map f).Nodup → l.Nodup
  | [], _ => List.nodup_nil
  | a :: l, h => by
    rw [List.map_cons, List.nodup_cons] at h
    exact List.nodup_cons.2 ⟨fun ha => h.1 (List.mem_map.2 ⟨a, ha, rfl⟩), nodup_of_map f h.2⟩
theorem RngS.next {w : World} {b r : Nat} {es : Array MapEntry} {clock : Nat} {ds : List MapEntry} (h : RngS w b r es clock ds) (ho : ∀ x ∈ es.toList, x.born < clock) (hn : (es.toList.map (·.born)).Nodup) (ty : TypeId) :
    (ds.Perm es.toList ∧ (Instr.next (.pointer (some ⟨r, 0, none⟩)) false ty).run Try.prog w = .ok (.tuple #[.bool false]) w) ∨
    (∃ e, e ∈ es.toList ∧ ds.length < es.toList.length ∧ ∃ w', (Instr.next (.pointer (some ⟨r, 0, none⟩)) false ty).run Try.prog w = .ok (.tuple #[.bool true, e.key, e.val]) w' ∧ RngS w' b r es clock (ds ++ [e]) ∧ w.grownBy w' (some r) ∧ w'.heap.size = w.heap.size ∧
      (Instr.entry (.pointer (some ⟨r, 0, none⟩))).run Try.prog w' = .ok (.tuple #[e.key, e.val]) w') := by
  have hd : ds.Nodup := nodup_of_map _ h.nod
  have he : es.toList.Nodup := nodup_of_map _ hn
  have hc : ∀ e : MapEntry, (ds.map (·.born)).toArray.contains e.born = true ↔ ∃ d ∈ ds, d.born = e.born := fun e => by
    rw [Array.contains_iff_mem]
    simp [eq_comm]
  have hin : ∀ e ∈ es.toList, (∃ d ∈ ds, d.born = e.born) → e ∈ ds := by
    rintro e hee ⟨d, hdd, hb⟩
    have := born_inj hn (h.sub d hdd) hee hb
    exact this ▸ hdd
  rcases run_next_at (P := Try.prog) w ty r b clock clock _ es clock h.it h.mp ho (Nat.le_refl _) with ⟨h0, hr⟩ | ⟨e, hel, w1, hw1, hr⟩
  · refine .inl ⟨(List.perm_ext_iff_of_nodup hd he).2 fun x => ⟨h.sub x, fun hx => ?_⟩, hr⟩
    have hz : leftOf es (ds.map (·.born)).toArray = #[] := Array.eq_empty_of_size_eq_zero h0
    refine hin x hx ((hc x).1 ?_)
    cases hcc : (ds.map (·.born)).toArray.contains x.born with
    | true => rfl
    | false =>
      have : x ∈ leftOf es (ds.map (·.born)).toArray := by
        unfold leftOf
        rw [Array.mem_filter]
        exact ⟨by simpa using hx, by rw [hcc]; rfl⟩
      rw [hz] at this
      simp at this
  · have hel2 : e ∈ es.toList ∧ (ds.map (·.born)).toArray.contains e.born = false := by
      have h1 : e ∈ leftOf es (ds.map (·.born)).toArray := by simpa using hel
      unfold leftOf at h1
      rw [Array.mem_filter] at h1
      exact ⟨by simpa using h1.1, by simpa using h1.2⟩
    have hnew : ∀ d ∈ ds, d.born ≠ e.born := fun d hdd hb => by
      have := (hc e).2 ⟨d, hdd, hb⟩
      rw [hel2.2] at this
      cases this
    have hnod : ((ds ++ [e]).map (·.born)).Nodup := by
      rw [List.map_append, List.nodup_append]
      refine ⟨h.nod, by simp, ?_⟩
      intro a ha c hc' e'
      obtain ⟨d, hdd, rfl⟩ := List.mem_map.1 ha
      simp at hc'
      exact hnew d hdd (e'.trans hc')
    have hsub : ∀ x ∈ ds ++ [e], x ∈ es.toList := fun x hx => by
      rcases List.mem_append.1 hx with hx | hx
      · exact h.sub x hx
      · simp at hx; subst hx; exact hel2.1
    have hlen := pigeon _ (es.toList.map (·.born)) hnod (fun z hz => by
      obtain ⟨x, hx, rfl⟩ := List.mem_map.1 hz
      exact List.mem_map.2 ⟨x, hsub x hx, rfl⟩)
    rw [List.length_map, List.length_map, List.length_append, List.length_singleton] at hlen
    have hw1r : w1.heap[r]? = some (.mapIter (some b) clock (ds.map (·.born)).toArray clock) := by rcases hw1 with rfl | rfl <;> exact h.it
    have hw1b : w1.heap[b]? = some (.map es clock) := by rcases hw1 with rfl | rfl <;> exact h.mp
    have hw1s : w1.heap.size = w.heap.size := by rcases hw1 with rfl | rfl <;> rfl
    have hne : r ≠ b := fun e' => by rw [e', hw1b] at hw1r; cases hw1r
    have hlr := (Array.getElem?_eq_some_iff.1 hw1r).1
    have hR : RngS (ChangeMaps.setBlock w1 r (.mapIter (some b) clock ((ds.map (·.born)).toArray.push e.born) clock)) b r es clock (ds ++ [e]) := by
      refine ⟨?_, ?_, hsub, hnod⟩
      · show (w1.heap.setIfInBounds r _)[b]? = _
        rw [Array.getElem?_setIfInBounds_ne hne]
        exact hw1b
      · show (w1.heap.setIfInBounds r _)[r]? = _
        rw [Array.getElem?_setIfInBounds_self_of_lt hlr]
        simp
    refine .inr ⟨e, hel2.1, by omega, _, hr, hR, ?_, ?_, ?_⟩
    · refine ⟨by rcases hw1 with rfl | rfl <;> rfl, by rcases hw1 with rfl | rfl <;> rfl, by rcases hw1 with rfl | rfl <;> rfl, by show w.heap.size ≤ (w1.heap.setIfInBounds r _).size; rw [Array.size_setIfInBounds, hw1s]; exact Nat.le_refl _, fun k hk hkr => ?_⟩
      show (w1.heap.setIfInBounds r _)[k]? = _
      rw [Array.getElem?_setIfInBounds_ne (fun e' => hkr (by rw [e']))]
      rcases hw1 with rfl | rfl <;> rfl
    · show (w1.heap.setIfInBounds r _).size = _
      rw [Array.size_setIfInBounds, hw1s]
    · have hit := hR.it
      refine run_entry_at (P := Try.prog) _ r b clock (ds.map (·.born)).toArray es clock e ?_ hR.mp hel2.1 hn
      rw [hit]
      simp
theorem mapS_range {w : World} {b : Nat} {es : Array MapEntry} {clock : Nat} {l : List Nv} (h : MapE w b es clock l) :
    (Instr.range 83 (.map (some b))).run Try.prog w = .ok (.pointer (some ⟨w.heap.size, 0, none⟩)) (w.alloc (.mapIter (some b) clock #[] clock)) ∧ RngS (w.alloc (.mapIter (some b) clock #[] clock)) b w.heap.size es clock [] := by
  refine ⟨run_range_map w 83 3 46 b es clock u73 h.at', ?_, (MapKept.heap_alloc w _).1, fun e he => by simp at he, by simp⟩
  exact ((MapKept.heap_alloc w _).2 b (Array.getElem?_eq_some_iff.1 h.at').1).trans h.at'

/-- How many are still to come, read off the world. -/
def rleft (w : World) (b r : Nat) : Nat :=
  match w.heap[b]?, w.heap[r]? with
  | some (.map es _), some (.mapIter _ _ seen _) => es.size - seen.size
  | _, _ => 0
theorem RngS.left {w : World} {b r : Nat} {es : Array MapEntry} {clock : Nat} {ds : List MapEntry} (h : RngS w b r es clock ds) : rleft w b r = es.toList.length - ds.length := by
  unfold rleft
  rw [h.mp, h.it]
  simp
theorem RngS.walk {w : World} {b r : Nat} {es : Array MapEntry} {clock : Nat} {ds : List MapEntry} (h : RngS w b r es clock ds) : ∃ o : Obj, w.heap[r]? = some o ∧ o.isWalk = true := ⟨_, h.it, rfl⟩
theorem RngS.alloc {w : World} {b r : Nat} {es : Array MapEntry} {clock : Nat} {ds : List MapEntry} (h : RngS w b r es clock ds) (o : Obj) : RngS (w.alloc o) b r es clock ds := h.walks (KeepsWalks.alloc w o)
open Classical in
noncomputable def unN (x : Value) : Nv := if h : ∃ v, vN v = x then Classical.choose h else ⟨0, 0, 0, 0, none, 0, 0⟩
theorem unN_vN (v : Nv) : unN (vN v) = v := by
  have h : ∃ u, vN u = vN v := ⟨v, rfl⟩
  unfold unN
  rw [dif_pos h]
  exact vN_inj (Classical.choose_spec h)
theorem map_unN (l : List Nv) : (l.map vN).map unN = l := by
  rw [List.map_map]
  refine (List.map_congr_left (g := id) fun x _ => ?_).trans (List.map_id _)
  exact unN_vN x
theorem vals_of {es : List MapEntry} {l : List Nv} (he : es.map (fun e => (e.key, e.val)) = (l.map kvN).map (fun q => (Value.int .i64 q.1, q.2))) : es.map (·.val) = l.map vN := by
  have h := congrArg (fun (x : List (Value × Value)) => x.map (·.2)) he
  simpa [List.map_map, Function.comp_def, kvN] using h
theorem val_mem {es : List MapEntry} {l : List Nv} (he : es.map (·.val) = l.map vN) {e : MapEntry} (h : e ∈ es) : ∃ v ∈ l, e.val = vN v := by
  have : e.val ∈ es.map (·.val) := List.mem_map.2 ⟨e, h, rfl⟩
  rw [he] at this
  obtain ⟨v, hv, hx⟩ := List.mem_map.1 this
  exact ⟨v, hv, hx.symm⟩
theorem perm_vals {es ds : List MapEntry} {l vs : List Nv} (he : es.map (·.val) = l.map vN) (hd : ds.map (·.val) = vs.map vN) (hp : ds.Perm es) : vs.Perm l := by
  have h := (hp.map (·.val)).map unN
  rwa [he, hd, map_unN, map_unN] at h

set_option maxRecDepth 100000 in
set_option maxHeartbeats 2000000 in
theorem vals1_in (F : Fence) (n : Nat) (h69 : F.fn 69) (hro : F.round = none) (hn : 1 ≤ n) (l Bm b : Nat) (vs0 : List Nv) (J : List Nv → World → Prop)
    (hY : ∀ pre x W, J pre W → pre.length < vs0.length → YieldAt F (n - 1) Try.prog l #[vN x] W fun e W' => e = .returned (.bool true) ∧ J (pre ++ [x]) W' ∧ KeepsWalks W W')
    (W : World) (hJ : AbidesFrom W.heap.size J) (hm : W.cell? ⟨Bm, 0, none⟩ = some (.map (some b))) (hown : MapS W b vs0) (h0 : J [] W) :
    CallsIn F n Try.prog 69 #[.func (.yield l) #[] #[], .pointer (some ⟨Bm, 0, none⟩)] W fun e W' => (∃ v, e = .returned v) ∧ ∃ vs, vs.Perm vs0 ∧ J vs W' := by
  obtain ⟨es, clock, hE⟩ := hown
  obtain ⟨hrun, hR0⟩ := mapS_range hE
  have HV := Lib.hid (vals_of hE.ent)
  have HO := Lib.hid hE.old
  have HN := Lib.hid hE.nod
  have HL : Hid (es.toList.length = vs0.length) := Lib.hid (by have := congrArg List.length HV.out; simpa using this)
  have R0 := Lib.hid hR0
  have J0 : Hid (J [] (W.alloc (.mapIter (some b) clock #[] clock))) := Lib.hid (hJ [] W _ none h0 (World.grownBy_alloc W _ none) (fun r e => by cases e))
  have HJ := Lib.hid hJ
  have HY := Lib.hid hY
  clear hE hR0 h0 hJ hY
  refine callsIn_of_wp Try.func69 rfl h69 ?_ hro
  simp only [Try.ntmps69, List.size_toArray, List.length_cons, List.length_nil, Nat.reduceAdd, Nat.reduceSub, Array.replicate_succ, Array.replicate_zero, List.push_toArray, List.append_toArray, List.nil_append, List.cons_append]
  gi_wp2
  clear hrun hm
  generalize W.alloc (.mapIter (some b) clock #[] clock) = W0 at R0 J0 ⊢
  obtain ⟨r, hr⟩ : ∃ r, W.heap.size = r := ⟨_, rfl⟩
  rw [hr] at R0 HJ ⊢
  clear hr
  gi_loopw [4] (fun _ wr => ∃ (ds : List MapEntry) (vs : List Nv), Hid (RngS wr b r es clock ds) ∧ Hid (ds.map (·.val) = vs.map vN) ∧ Hid (J vs wr))
    (fun _ wr => rleft wr b r)
  case atStart =>
    exact ⟨[], [], R0, Lib.hid rfl, J0⟩
  case round =>
    clear R0 J0
    obtain ⟨ds, vs, R, D, JJ⟩ := hrel
    rcases R.out.next HO.out HN.out 0 with ⟨hp, hnx⟩ | ⟨e, he, hlt, w2, hnx, hR2, hg2, hs2, hen⟩
    · have P : Hid (vs.Perm vs0) := Lib.hid (perm_vals HV.out D.out hp)
      clear hp
      gi_wp2
      go_end0
      exact ⟨⟨_, rfl⟩, vs, P.out, JJ.out⟩
    · obtain ⟨x, hx, hval⟩ := val_mem HV.out he
      rw [hval] at hnx hen
      have R2 := Lib.hid hR2
      have J2 : Hid (J vs w2) := Lib.hid (HJ.out vs wr w2 (some r) JJ.out hg2 (fun k e => by cases e; exact ⟨Nat.le_refl _, R.out.walk⟩))
      have R3 : Hid (RngS (w2.alloc (.cells #[.int .i64 x.id, .int .i64 x.kd, .int .i64 x.fr, .int .i64 x.tt, .slice x.kp x.kn x.kc] 46)) b r es clock (ds ++ [e])) := Lib.hid (R2.out.alloc _)
      have J3 : Hid (J vs (w2.alloc (.cells #[.int .i64 x.id, .int .i64 x.kd, .int .i64 x.fr, .int .i64 x.tt, .slice x.kp x.kn x.kc] 46))) := Lib.hid (HJ.out vs w2 _ none J2.out (World.grownBy_alloc w2 _ none) (fun k e => by cases e))
      have LL : Hid (vs.length < vs0.length) := Lib.hid (by
        have h1 := congrArg List.length D.out
        simp at h1
        rw [← HL.out]; omega)
      have D2 : Hid ((ds ++ [e]).map (·.val) = (vs ++ [x]).map vN) := Lib.hid (by rw [List.map_append, List.map_append, D.out]; simp [hval])
      have M : Hid (rleft wr b r = es.toList.length - ds.length ∧ ds.length < es.toList.length) := Lib.hid ⟨R.out.left, hlt⟩
      obtain ⟨fn, tmps, assign, body, hy, hRR⟩ := HY.out vs x _ J3.out LL.out
      unfold vN at hy hnx hen
      have RRR := Lib.hid hRR
      clear hs2 hg2 hval hx he hlt hR2 hRR
      gi_wp2
      refine RRR.out.mono ?_
      rintro e3 W3 ⟨rfl, hJ3, hk3⟩
      have R4 := Lib.hid (R3.out.walks hk3)
      have J4 := Lib.hid hJ3
      clear hJ3 hk3
      gi_wp2
      go_roundw
      case rel => exact ⟨ds ++ [e], vs ++ [x], R4, D2, J4⟩
      case measure =>
        rw [R4.out.left, M.out.1, List.length_append, List.length_singleton]
        have := M.out.2
        omega

set_option maxHeartbeats 1000000 in
/-- maps.Values: the map is boxed; the function value captures the box. -/
theorem values_in (F : Fence) (n : Nat) (hf : F.fn 54) (hro : F.round = none) (mb : Option Nat) (w : World) :
    CallsIn F n Try.prog 54 #[.map mb] w fun e w' => e = .returned (.func (.func 69) #[] #[.pointer (some ⟨w.heap.size, 0, none⟩)]) ∧ w' = w.alloc (.cells #[.map mb] 83) := by
  refine callsIn_of_wp Try.func54 rfl hf ?_ hro
  simp only [Try.ntmps54, List.size_toArray, List.length_cons, List.length_nil, Nat.reduceAdd, Nat.reduceSub, Array.replicate_succ, Array.replicate_zero, List.push_toArray, List.append_toArray, List.nil_append, List.cons_append]
  gi_wp2
  go_ret
  exact ⟨rfl, rfl⟩

/-- What maps.Values hands back gives the nodes, in some order. -/
theorem values_gives (F : Fence) (n : Nat) (h69 : F.fn 69) (hro : F.round = none) (hn : 1 ≤ n) (Bm b : Nat) (vs0 : List Nv) (w : World) (hBm : Bm < w.heap.size)
    (hm : w.cell? ⟨Bm, 0, none⟩ = some (.map (some b))) (hown : MapS w b vs0) :
    SeqGives F n Try.prog 69 #[.pointer (some ⟨Bm, 0, none⟩)] vN (fun vs => vs.Perm vs0) vs0.length w := fun l J W hW hJ hY h0 =>
  vals1_in F n h69 hro hn l Bm b vs0 J hY W hJ ((hW.cell (p := ⟨Bm, 0, none⟩) hBm).trans hm) (hown.below hW) h0

def apAssign : Code := (Code.region 2 #[{ dst := some 5, op := Op.alloc 46, type := 0, pos := "iter.go:51", after := #[], guard := none }, { dst := none, op := Op.store 46 (Operand.tmp 5) (Operand.tmp 7), type := 0, pos := "iter.go:51", after := #[{ on := 0, ground := Ground.data }, { on := 0, ground := Ground.phase }], guard := none }] false)
def apBody : Code := (Code.block 1 (Code.region 3 #[{ dst := some 8, op := Op.load 22 (Operand.tmp 2), type := 22, pos := "iter.go:52", after := #[], guard := none }, { dst := some 9, op := Op.load 46 (Operand.tmp 5), type := 46, pos := "iter.go:52", after := #[], guard := none }, { dst := some 10, op := Op.buildSlice 22 1 #[(0, Operand.tmp 9)], type := 22, pos := "iter.go:52", after := #[{ on := 1, ground := Ground.data }], guard := none }, { dst := some 11, op := Op.call { callee := Callee.builtin Builtin.append, args := #[Operand.tmp 8, Operand.tmp 10], argTypes := #[22, 22] }, type := 22, pos := "iter.go:52", after := #[{ on := 0, ground := Ground.data }, { on := 2, ground := Ground.data }], guard := none }, { dst := none, op := Op.store 22 (Operand.tmp 2) (Operand.tmp 11), type := 0, pos := "iter.go:52", after := #[{ on := 3, ground := Ground.data }, { on := 3, ground := Ground.chain }, { on := 0, ground := Ground.phase }, { on := 1, ground := Ground.phase }, { on := 2, ground := Ground.phase }, { on := 3, ground := Ground.phase }], guard := none }] false))
/-- The loop's record: AppendSeq's temporaries as they stood at the entering: its slice boxed in block Bs; sv: the iterator's value. -/
def apRec (fn : FuncId) (sv : Value) (Bs D : Nat) (st : LoopState) (pend : Option Code) : Loop :=
  { state := st, pending := pend, fn, tmps := #[.slice none 0 0, sv, .pointer (some ⟨Bs, 0, none⟩), undef, .slice none 0 0, undef, sv, undef, undef, undef, undef, undef, undef], params := #[7], assign := apAssign, body := apBody, defers := D }

/-- Between two rounds: the box holds a slice that owns, in a block of the call's own, what has come so far; nothing that lay before the call has turned. -/
structure ApAt (w0 : World) (fn : FuncId) (sv : Value) (Bs l D : Nat) (ss : List Nv) (W : World) : Prop where
  box : ∃ v, W.heap[Bs]? = some (.cells #[v] 22 (0, 0)) ∧ lyN.Own W w0.heap.size v ss
  L : W.heap[l]? = some (.loop (apRec fn sv Bs D .ready none))
  K : W.heap[D]? = some (.deferred (some []))
  below : Below w0.heap.size w0 W

theorem own_abides {W W' : World} {row : Option Nat} {base : Nat} {v : Value} {xs : List Nv} (h : lyN.Own W base v xs) (hg : W.grownBy W' row)
    (hrow : ∀ r, row = some r → ∃ o : Obj, W.heap[r]? = some o ∧ o.isWalk = true) : lyN.Own W' base v xs := h.kept hg (fun g hv e => by
  obtain ⟨o, ho, hw⟩ := hrow g e
  obtain ⟨cur, hc⟩ := h.obj hv
  rw [hc] at ho; cases ho; cases hw)
theorem ap_abides (w0 : World) (fn : FuncId) (sv : Value) (Bs l D B : Nat) (hB : w0.heap.size ≤ B) : AbidesFrom B (ApAt w0 fn sv Bs l D) := fun s W W' row h hg hrow => by
  have hrow' : ∀ r, row = some r → ∃ o : Obj, W.heap[r]? = some o ∧ o.isWalk = true := fun r e => (hrow r e).2
  obtain ⟨v, hv, hr⟩ := h.box
  exact ⟨⟨v, (grownBy_keeps hg hrow' hv rfl).trans hv, own_abides hr hg hrow'⟩, (grownBy_keeps hg hrow' h.L rfl).trans h.L, (grownBy_keeps hg hrow' h.K rfl).trans h.K,
    h.below.grown hg h.below.size (fun k e => Nat.le_trans hB (hrow k e).1)⟩
theorem grown_put (W : World) (l : Nat) (o : Obj) : W.grownBy (W.putObj l o) (some l) :=
  ⟨rfl, rfl, rfl, by simp, fun k _ hk => World.putObj_heap_other (fun e => hk (by rw [e]))⟩
/-- A row's block is no other object. -/
theorem own_ne {W : World} {base : Nat} {v : Value} {xs : List Nv} (h : lyN.Own W base v xs) {j : Nat} {o : Obj} (hj : W.heap[j]? = some o) (hno : ∀ cur, o ≠ .cells cur 46 (0, 0)) : ∀ g, v.ownBlock = some g → (some j : Option Nat) ≠ some g := fun g hv e => by
  obtain ⟨cur, hc⟩ := h.obj hv
  cases e
  rw [hj] at hc
  cases hc
  exact hno cur rfl
theorem box_cells {W : World} {B : Nat} {v : Value} {t : TypeId} (h : W.heap[B]? = some (.cells #[v] t (0, 0))) : W.cell? ⟨B, 0, none⟩ = some v ∧ W.frozen? ⟨B, 0, none⟩ = false := by
  constructor <;> simp [World.cell?, World.frozen?, h]
theorem own_not_walk {W : World} {base : Nat} {v : Value} {xs : List Nv} (h : lyN.Own W base v xs) : ∀ (j : Nat) (o : Obj), v.ownBlock = some j → W.heap[j]? = some o → o.isWalk = false := by
  intro j o hj ho
  obtain ⟨cur, hc⟩ := h.obj hj
  rw [hc] at ho; cases ho; rfl

set_option maxRecDepth 100000 in
set_option maxHeartbeats 2000000 in
theorem ap_yield (F : Fence) (m : Nat) (w0 : World) (fn : FuncId) (hfn : F.fn fn) (sv : Value) (Bs l D : Nat) (hBl : Bs ≠ l) (hDl : D ≠ l) (hDB : D ≠ Bs) (h0B : w0.heap.size ≤ Bs) (h0l : w0.heap.size ≤ l)
    (N : Nat) (hNb : N ≤ 1000000) (ss : List Nv) (x : Nv) (W : World) (h : ApAt w0 fn sv Bs l D ss W) (hlen : ss.length < N) :
    YieldAt F m Try.prog l #[vN x] W fun e W' => e = .returned (.bool true) ∧ ApAt w0 fn sv Bs l D (ss ++ [x]) W' ∧ KeepsWalks W W' := by
  obtain ⟨i0, hi, hz0, hz1, hz2⟩ := info_parts info63
  obtain ⟨v, hv, hrow⟩ := h.box
  refine ⟨fn, #[.slice none 0 0, sv, .pointer (some ⟨Bs, 0, none⟩), undef, .slice none 0 0, undef, sv, vN x, undef, undef, undef, undef, undef], apAssign, apBody, by simpa [apRec] using run_yield (P := Try.prog) (args := #[vN x]) h.L rfl, roundIn_of_wpIn hfn ?_⟩
  unfold vN
  have hbA : Below W.heap.size W (W.alloc (.cells #[.int .i64 x.id, .int .i64 x.kd, .int .i64 x.fr, .int .i64 x.tt, .slice x.kp x.kn x.kc] 46)) := (Below.refl _ _).alloc (Nat.le_refl _) _
  have hkA : KeepsWalks W (W.alloc (.cells #[.int .i64 x.id, .int .i64 x.kd, .int .i64 x.fr, .int .i64 x.tt, .slice x.kp x.kn x.kc] 46)) := KeepsWalks.alloc _ _
  have hxA := heap_alloc_new W (.cells #[.int .i64 x.id, .int .i64 x.kd, .int .i64 x.fr, .int .i64 x.tt, .slice x.kp x.kn x.kc] 46)
  have hxl : W.heap.size ≠ l := fun e => by have := (Array.getElem?_eq_some_iff.1 h.L).1; omega
  have HvA := Lib.hid ((hbA.block _ (Array.getElem?_eq_some_iff.1 hv).1).trans hv)
  have HKA := Lib.hid ((hbA.block _ (Array.getElem?_eq_some_iff.1 h.K).1).trans h.K)
  have HLA := Lib.hid ((hbA.block _ (Array.getElem?_eq_some_iff.1 h.L).1).trans h.L)
  have HRA := Lib.hid (hrow.below hbA)
  have HBA : Hid (Below w0.heap.size w0 (W.alloc (.cells #[.int .i64 x.id, .int .i64 x.kd, .int .i64 x.fr, .int .i64 x.tt, .slice x.kp x.kn x.kc] 46))) := Lib.hid (h.below.trans (hbA.mono h.below.size))
  have HKW := Lib.hid hkA
  have HXA := Lib.hid hxA
  clear hbA hkA hxA hrow hv h
  unfold apAssign
  gi_wp2_with (rw [Oper.semAt_eq _ _ _ (fun c h => by cases h)]; go_simp; try go_bits)
  generalize (W.alloc (.cells #[.int .i64 x.id, .int .i64 x.kd, .int .i64 x.fr, .int .i64 x.tt, .slice x.kp x.kn x.kc] 46)) = WA at *
  generalize W.heap.size = xb at *
  refine ⟨_, run_beginRound (P := Try.prog) HLA.out rfl, ?_⟩
  obtain ⟨W3, hW3⟩ : ∃ W3, WA.putObj l (.loop { apRec fn sv Bs D .ready none with state := .busy }) = W3 := ⟨_, rfl⟩
  rw [hW3]
  have hl : l < WA.heap.size := (Array.getElem?_eq_some_iff.1 HLA.out).1
  have hg2 : WA.grownBy W3 (some l) := by rw [← hW3]; exact grown_put _ _ _
  have hkA : KeepsWalks W W3 := by rw [← hW3]; exact HKW.out.trans (KeepsWalks.putObj _ HLA.out rfl)
  have hv3 : W3.heap[Bs]? = some (.cells #[v] 22 (0, 0)) := by rw [← hW3]; exact (World.putObj_heap_other hBl).trans HvA.out
  have hK3 : W3.heap[D]? = some (.deferred (some [])) := by rw [← hW3]; exact (World.putObj_heap_other hDl).trans HKA.out
  have hL3 : W3.heap[l]? = some (.loop { apRec fn sv Bs D .ready none with state := .busy }) := by rw [← hW3]; exact World.putObj_heap_same hl
  have hxA : W3.heap[xb]? = some (.cells #[.int .i64 x.id, .int .i64 x.kd, .int .i64 x.fr, .int .i64 x.tt, .slice x.kp x.kn x.kc] 46 (0, 0)) := by rw [← hW3]; exact (World.putObj_heap_other hxl).trans HXA.out
  have hrow3 : lyN.Own W3 w0.heap.size v ss := HRA.out.kept hg2 (own_ne HRA.out HLA.out (fun cur e => by cases e))
  have hb3 : Below w0.heap.size w0 W3 := HBA.out.grown hg2 HBA.out.size (fun k e => by cases e; exact h0l)
  clear hW3 hg2 HvA HKA HLA HRA HBA HKW HXA
  have x0 : W3.cell? ⟨xb, 0, none⟩ = some (.int .i64 x.id) := (obj_cells hxA).1 0 _ rfl
  have x1 : W3.cell? ⟨xb, 1, none⟩ = some (.int .i64 x.kd) := (obj_cells hxA).1 1 _ rfl
  have x2 : W3.cell? ⟨xb, 2, none⟩ = some (.int .i64 x.fr) := (obj_cells hxA).1 2 _ rfl
  have x3 : W3.cell? ⟨xb, 3, none⟩ = some (.int .i64 x.tt) := (obj_cells hxA).1 3 _ rfl
  have x4 : W3.cell? ⟨xb, 4, none⟩ = some (.slice x.kp x.kn x.kc) := (obj_cells hxA).1 4 _ rfl
  obtain ⟨hc3, hf3⟩ := box_cells hv3
  unfold apBody
  have OWA : (W3.alloc (.cells #[.int .i64 x.id, .int .i64 x.kd, .int .i64 x.fr, .int .i64 x.tt, .slice x.kp x.kn x.kc] 46)).ownsRow w0.heap.size 46 5 v ss.length (lyN.all ss) := hrow3.below ((Below.refl _ _).alloc (Nat.le_refl _) _)
  have hBlt : Bs < W3.heap.size := (Array.getElem?_eq_some_iff.1 hv3).1
  have hllt : l < W3.heap.size := (Array.getElem?_eq_some_iff.1 hL3).1
  have hDlt : D < W3.heap.size := (Array.getElem?_eq_some_iff.1 hK3).1
  have hs3 := hb3.size
  have ne_of : ∀ {j : Nat} {o : Obj}, W3.heap[j]? = some o → (∀ cur, o ≠ .cells cur 46 (0, 0)) → (some j : Option Nat) ≠ v.ownBlock := fun hj hno e => own_ne hrow3 hj hno _ e.symm rfl
  gi_wp2_with (first
    | (gi_at_builtin; refine wpListIn_append_own _ rfl _ _ 22 rfl w0.heap.size 46 i0 _ 5 56 Try.underlying22 hi hz0 hz1 hz2 rfl (by decide) v ss.length (lyN.all ss) rfl OWA ⟨W3.heap.size, 0, none⟩ 1 1 (Nv.cells x) rfl rfl (five_new rfl x) (lyN.one x) (by unfold maxLen; omega) (by omega) (by simp; omega) ?_; intro v' w4 hown' hg4 hnil4
       have hown4 : lyN.Own w4 w0.heap.size v' (ss ++ [x]) := (by unfold Ly.Own; rw [List.length_append, List.length_singleton, all_app, all_one]; exact hown')
       obtain ⟨g', cap', rfl, hbase', hgb', hcp'⟩ := hown4.formS (by simp)
       rw [List.length_append, List.length_singleton] at *
       have hv4 : w4.heap[Bs]? = some (.cells #[v] 22 (0, 0)) := (hg4.block Bs (by simp; omega) (ne_of hv3 (fun cur e => by cases e))).trans ((Below.heap_alloc _ _ Bs hBlt).trans hv3)
       obtain ⟨hc4, hf4⟩ := box_cells hv4
       go_frame)
    | (rw [Oper.semAt_eq _ _ _ (fun c h => by cases h)]; go_simp; try go_bits))
  have hL4 : w4.heap[l]? = some (.loop { apRec fn sv Bs D .ready none with state := .busy }) := (hg4.block l (by simp; omega) (ne_of hL3 (fun cur e => by cases e))).trans ((Below.heap_alloc _ _ l hllt).trans hL3)
  have hK4 : w4.heap[D]? = some (.deferred (some [])) := (hg4.block D (by simp; omega) (ne_of hK3 (fun cur e => by cases e))).trans ((Below.heap_alloc _ _ D hDlt).trans hK3)
  have hb4 : Below w0.heap.size w0 w4 := (hb3.alloc hb3.size _).grown hg4 (by simp; omega) (fun k e => (hrow3.lt (g := k) e).1)
  have hkA4 : KeepsWalks W w4 := (hkA.trans (KeepsWalks.alloc _ _)).trans (KeepsWalks.of_grownBy hg4 (own_not_walk (hrow3.below ((Below.refl _ _).alloc (Nat.le_refl _) _))))
  have hk5 : KeepsWalks w4 (w4.setCell ⟨Bs, 0, none⟩ (.slice (some ⟨g', 0, none⟩) (ss.length + 1) cap')) := KeepsWalks.setCell _ _ _
  have hg5 : w4.grownBy (w4.setCell ⟨Bs, 0, none⟩ (.slice (some ⟨g', 0, none⟩) (ss.length + 1) cap')) (some Bs) := set_grown w4 Bs 0 _
  have hv5 : (w4.setCell ⟨Bs, 0, none⟩ (.slice (some ⟨g', 0, none⟩) (ss.length + 1) cap')).heap[Bs]? = some (.cells #[.slice (some ⟨g', 0, none⟩) (ss.length + 1) cap'] 22 (0, 0)) := by rw [heap_setCell_at hv4]; rfl
  generalize w4.setCell ⟨Bs, 0, none⟩ (.slice (some ⟨g', 0, none⟩) (ss.length + 1) cap') = w5 at *
  have hL5 := (hg5.block l (Array.getElem?_eq_some_iff.1 hL4).1 (fun e => hBl (by cases e; rfl))).trans hL4
  have hK5 := (hg5.block D (Array.getElem?_eq_some_iff.1 hK4).1 (fun e => hDB (by cases e; rfl))).trans hK4
  have hrow5 : lyN.Own w5 w0.heap.size (.slice (some ⟨g', 0, none⟩) (ss.length + 1) cap') (ss ++ [x]) := hown4.kept hg5 (own_ne hown4 hv4 (fun cur e => by cases e))
  have hb5 : Below w0.heap.size w0 w5 := hb4.grown hg5 hb4.size (fun k e => by cases e; exact h0B)
  have hl5 : l < w5.heap.size := (Array.getElem?_eq_some_iff.1 hL5).1
  refine ⟨_, _, run_endRound none hL5, rfl, ⟨⟨_, (World.putObj_heap_other hBl).trans hv5, ?_⟩, World.putObj_heap_same hl5, (World.putObj_heap_other hDl).trans hK5, hb5.grown (grown_put _ _ _) hb5.size (fun k e => by cases e; exact h0l)⟩, (hkA4.trans hk5).trans (KeepsWalks.putObj _ hL5 rfl)⟩
  exact hrow5.kept (grown_put w5 l _) (own_ne hrow5 hL5 (fun cur e => by cases e))

set_option maxRecDepth 100000 in
set_option maxHeartbeats 2000000 in
/-- slices.AppendSeq from the nil slice: what the iterator gave, in that order, in a row of the call's own. -/
theorem appendSeq_in (F : Fence) (n : Nat) (h78 : F.fn 78) (hro : F.round = none) (hn : 2 ≤ n) (g : Nat) (lb : Array Value) (hFg : F.fn g) (eg : ∀ args w, (callFunc g args).run Try.prog w = .ok (.enter g args) w)
    (S : List Nv → Prop) (N : Nat) (hNb : N ≤ 1000000) (w : World) (hseq : SeqGives F (n - 1) Try.prog g lb vN S N w) :
    CallsIn F n Try.prog 78 #[.slice none 0 0, .func (.func g) #[] lb] w fun e w' => ∃ (v : Value) (ss : List Nv), e = .returned v ∧ S ss ∧ lyN.Own w' w.heap.size v ss ∧ Below w.heap.size w w' := by
  have h1 : 1 ≤ n := by omega
  refine callsIn_of_wp_marks Try.func78 rfl h78 ?_ hro
  simp only [Try.ntmps78, List.size_toArray, List.length_cons, List.length_nil, Nat.reduceAdd, Nat.reduceSub, Array.replicate_succ, Array.replicate_zero, List.push_toArray, List.append_toArray, List.nil_append, List.cons_append]
  gi_wp2
  refine wpIn_rangeFunc ?_
  intro fn hfn
  rw [hro]
  obtain ⟨W0, hW0⟩ : ∃ W0, w.alloc (.cells #[.slice none 0 0] 22) = W0 := ⟨_, rfl⟩
  have hs0 : W0.heap.size = w.heap.size + 1 := by rw [← hW0]; simp
  have hv0 : W0.heap[w.heap.size]? = some (.cells #[.slice none 0 0] 22 (0, 0)) := by rw [← hW0]; exact World.alloc_heap_new w _
  have hb0 : Below w.heap.size w W0 := by rw [← hW0]; exact (Below.refl _ w).alloc (Nat.le_refl _) _
  rw [hW0]
  obtain ⟨W1, hW1⟩ : ∃ W1, (W0.alloc (.deferred (some []))).alloc (.loop (apRec fn (.func (.func g) #[] lb) w.heap.size W0.heap.size .ready none)) = W1 := ⟨_, rfl⟩
  have hold : ∀ k, k < W0.heap.size → W1.heap[k]? = W0.heap[k]? := fun k hk => by
    rw [← hW1]; exact (Below.heap_alloc _ _ k (by simp; omega)).trans (Below.heap_alloc _ _ k hk)
  have hb1 : Below w.heap.size w W1 := by rw [← hW1]; exact (hb0.alloc hb0.size _).alloc (by have := hb0.size; simp; omega) _
  have hs1 : W1.heap.size = W0.heap.size + 2 := by rw [← hW1]; simp
  have hM : ApAt w fn (.func (.func g) #[] lb) w.heap.size (W0.heap.size + 1) W0.heap.size [] W1 :=
    ⟨⟨_, (hold w.heap.size (by omega)).trans hv0, Ly.Own.nil _ _⟩,
     by rw [← hW1]; have := World.alloc_heap_new (W0.alloc (.deferred (some []))) (.loop (apRec fn (.func (.func g) #[] lb) w.heap.size W0.heap.size .ready none)); rwa [World.size_alloc] at this,
     by rw [← hW1]; exact (Below.heap_alloc _ _ _ (by simp)).trans (World.alloc_heap_new W0 _), hb1⟩
  refine ⟨W0.heap.size + 1, [{ target := .collected W0.heap.size, args := #[] }], W1, { target := .fn (.func g) lb, args := #[.func (.yield (W0.heap.size + 1)) #[] #[]] }, W1, g,
    #[.func (.yield (W0.heap.size + 1)) #[] #[]] ++ lb, W1, ?_, ?_, ?_, ?_, fun _ => h1, ?_⟩
  · rw [← hW1]; exact run_enterLoop_outer _ _ _ _ _
  · simp [resolve, go_sem]
  · intro f' hf'; simp [Target.leads] at hf'; subst hf'; exact hFg
  · simp [invoke, go_sem, eg]
  · refine (hseq (W0.heap.size + 1) (ApAt w fn (.func (.func g) #[] lb) w.heap.size (W0.heap.size + 1) W0.heap.size) W1 hb1 (ap_abides _ _ _ _ _ _ _ hb1.size)
      (fun pre x W hJ hl => ap_yield F (n - 1 - 1) w fn hfn _ w.heap.size (W0.heap.size + 1) W0.heap.size (by omega) (by omega) (by omega) (Nat.le_refl _) (by omega) N hNb pre x W hJ hl) hM).mono ?_
    rintro e W2 ⟨⟨v0, rfl⟩, ss, hS, h2⟩
    obtain ⟨v, hv, hrow⟩ := h2.box
    have hend := run_endLoop (P := Try.prog) h2.L (by simp [apRec])
    obtain ⟨W3, hW3⟩ : ∃ W3, W2.putObj (W0.heap.size + 1) (.loop { apRec fn (.func (.func g) #[] lb) w.heap.size W0.heap.size .ready none with state := .exhausted }) = W3 := ⟨_, rfl⟩
    rw [hW3] at hend
    have hg3 : W2.grownBy W3 (some (W0.heap.size + 1)) := by rw [← hW3]; exact grown_put _ _ _
    have hv3 : W3.heap[w.heap.size]? = some (.cells #[v] 22 (0, 0)) := by rw [← hW3]; exact (World.putObj_heap_other (by omega)).trans hv
    have hK3 : W3.heap[W0.heap.size]? = some (.deferred (some [])) := by rw [← hW3]; exact (World.putObj_heap_other (by omega)).trans h2.K
    have hrow3 := hrow.kept hg3 (own_ne hrow h2.L (fun cur e => by cases e))
    have hb3 : Below w.heap.size w W3 := h2.below.grown hg3 h2.below.size (fun k e => by cases e; omega)
    obtain ⟨hc3, hf3⟩ := box_cells hv3
    clear hW3
    refine ⟨none, W3, hend, ?_⟩
    gi_wp2
    rw [← hs0]
    refine ⟨by simp, .inl ⟨_, _, rfl, run_takeDeferred hK3, ?_⟩⟩
    exact ⟨_, results_tmp rfl _ _ _, v, ss, rfl, hS, hrow3.kept (grown_put _ _ _) (own_ne hrow3 hK3 (fun cur e => by cases e)), hb3.grown (grown_put _ _ _) hb3.size (fun k e => by cases e; omega)⟩

set_option maxHeartbeats 1000000 in
/-- slices.Collect. -/
theorem collect_in (F : Fence) (n : Nat) (h67 : F.fn 67) (h78 : F.fn 78) (hro : F.round = none) (hn : 3 ≤ n) (g : Nat) (lb : Array Value) (hFg : F.fn g) (eg : ∀ args w, (callFunc g args).run Try.prog w = .ok (.enter g args) w)
    (S : List Nv → Prop) (N : Nat) (hNb : N ≤ 1000000) (w : World) (hseq : SeqGives F (n - 1 - 1) Try.prog g lb vN S N w) :
    CallsIn F n Try.prog 67 #[.func (.func g) #[] lb] w fun e w' => ∃ (v : Value) (ss : List Nv), e = .returned v ∧ S ss ∧ lyN.Own w' w.heap.size v ss ∧ Below w.heap.size w w' := by
  have h1 : 1 ≤ n := by omega
  refine callsIn_of_wp Try.func67 rfl h67 ?_ hro
  simp only [Try.ntmps67, List.size_toArray, List.length_cons, List.length_nil, Nat.reduceAdd, Nat.reduceSub, Array.replicate_succ, Array.replicate_zero, List.push_toArray, List.append_toArray, List.nil_append, List.cons_append]
  gi_wp2_with (gi_at_call 78; refine (appendSeq_in F (n - 1) h78 hro (by omega) g lb hFg eg S N hNb _ hseq).mono ?_; rintro e w' ⟨v, ss, rfl, hS, hrow, hb⟩)
  go_ret
  exact ⟨v, ss, rfl, hS, hrow, hb⟩

end Go.Proofs.Ytdhkjhdbaofdcaa
