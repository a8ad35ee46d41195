/-
  Ps1, Ps2, Ps3, Ps4, in one text. Conditions: as each theorem's premises say.
-/
import Derived.Test.YtjmfjlffcopnnaaGreatDoorPF05
import Derived.RegionTactic
namespace Go.Proofs.YtjmfjlffcopnnaaGreatDoor
open Go.RowKit

/-- A node's own cells: its numbers, its children's slice. -/
structure Nv where
  id : Int
  kd : Int
  fr : Int
  tt : Int
  kp : Option Addr
  kn : Nat
  kc : Nat
def Nv.kv (x : Nv) : Value := .slice x.kp x.kn x.kc
def Nv.cells (x : Nv) : List Value := [.int .i64 x.id, .int .i64 x.kd, .int .i64 x.fr, .int .i64 x.tt, x.kv]
def lyN : Ly Nv where
  ty := 109
  sz := 5
  cells := Nv.cells
  len _ := rfl
  one t u hu := by
    simp [Nv.cells, Nv.kv] at hu
    rcases hu with rfl | rfl | rfl | rfl | rfl <;> rfl
  pos := by decide
def lyI : Ly Int where
  ty := 3
  sz := 1
  cells x := [.int .i64 x]
  len _ := rfl
  one t u hu := by simp at hu; subst hu; rfl
  pos := by decide
theorem info63 : (Tryz.prog.info? 109).map (fun i => (i.zero, i.size, i.bytes)) = some (some (.agg #[.int .i64 0, .int .i64 0, .int .i64 0, .int .i64 0, .slice none 0 0]), 5, 56) := by kernel_rfl
theorem info3 : (Tryz.prog.info? 3).map (fun i => (i.zero, i.size, i.bytes)) = some (some (.int .i64 0), 1, 8) := by kernel_rfl

/-! Writing over an element -/
def setAll (w : World) (g : Nat) : Nat → List Value → World
  | _, [] => w
  | o, u :: r => setAll (w.setCell ⟨g, o, none⟩ u) g (o + 1) r
theorem own_setAll {base e size g n cap : Nat} : ∀ (us xs : List Value) (o : Nat) (w : World), w.ownsRow base e size (.slice (some ⟨g, 0, none⟩) n cap) n xs → o + us.length ≤ xs.length →
    (setAll w g o us).ownsRow base e size (.slice (some ⟨g, 0, none⟩) n cap) n (xs.take o ++ us ++ xs.drop (o + us.length))
  | [], xs, o, w, h, _ => by
    have e : xs.take o ++ [] ++ xs.drop (o + ([] : List Value).length) = xs := by simp
    rw [e]; exact h
  | u :: r, xs, o, w, h, hl => by
    rw [List.length_cons] at hl
    have h1 : (w.setCell ⟨g, o, none⟩ u).ownsRow base e size (.slice (some ⟨g, 0, none⟩) n cap) n (xs.set o u) := by
      refine ⟨by rw [List.length_set]; exact h.1, ?_⟩
      rcases h.2 with ⟨hv, _⟩ | ⟨g', cap', cur, hv, hb, hg, hnc, hm, hs, ht⟩
      · cases hv
      · cases hv
        refine .inr ⟨g, cap, _, rfl, hb, heap_setCell_at hg u, hnc, hm, by simpa using hs, ?_⟩
        rw [Array.toList_setIfInBounds, List.take_set, ht]
    have h2 := own_setAll r (xs.set o u) (o + 1) _ h1 (by rw [List.length_set]; omega)
    have e : (xs.set o u).take (o + 1) ++ r ++ (xs.set o u).drop (o + 1 + r.length) = xs.take o ++ (u :: r) ++ xs.drop (o + (u :: r).length) := by
      rw [List.take_set, List.take_add_one, List.getElem?_eq_getElem (by omega), List.length_cons, show o + (r.length + 1) = o + 1 + r.length by omega, List.drop_set_of_lt (by omega)]
      rw [List.set_append_right _ _ (by rw [List.length_take]; omega), List.length_take, Nat.min_eq_left (by omega), Nat.sub_self]
      simp
    rw [e] at h2
    exact h2
theorem grown_setAll {w w1 : World} {g : Nat} : ∀ (us : List Value) (o : Nat), w.grownBy w1 (some g) → w.grownBy (setAll w1 g o us) (some g)
  | [], _, h => h
  | u :: r, o, h => grown_setAll r (o + 1) (grown_set h u)
theorem Ly.Own.set {α : Type} {L : Ly α} {w : World} {base g n cap : Nat} {xs : List α} {i : Nat} {x : α} (h : L.Own w base (.slice (some ⟨g, 0, none⟩) n cap) xs) (hi : xs[i]? = some x) (y : α) :
    L.Own (setAll w g (i * L.sz) (L.cells y)) base (.slice (some ⟨g, 0, none⟩) n cap) (xs.set i y) := by
  have hn : n = xs.length := by
    obtain ⟨p, c, e⟩ := h.form
    cases e; rfl
  subst hn
  obtain ⟨hs, hlt⟩ := split_at hi
  obtain ⟨h1, h2⟩ := all_split (L := L) hi
  have hle : i * L.sz + (L.cells y).length ≤ (L.all xs).length := by
    rw [L.len, all_len]
    have := Nat.mul_le_mul_right L.sz (show i + 1 ≤ xs.length from hlt)
    rw [Nat.succ_mul] at this
    exact this
  have := own_setAll (L.cells y) (L.all xs) (i * L.sz) w h hle
  have e : (L.all xs).take (i * L.sz) ++ L.cells y ++ (L.all xs).drop (i * L.sz + (L.cells y).length) = L.all (xs.set i y) := by
    have e1 : (L.all xs).take (i * L.sz) = L.all (xs.take i) := by rw [h1, List.take_left' h2]
    have e2 : (L.all xs).drop (i * L.sz + (L.cells y).length) = L.all (xs.drop (i + 1)) := by
      rw [h1, ← List.append_assoc, List.drop_left' (by rw [List.length_append, h2, L.len, L.len])]
    rw [e1, e2, List.set_eq_take_append_cons_drop, if_pos hlt, all_app]
    simp [Ly.all]
  rw [e] at this
  unfold Ly.Own
  rw [List.length_set]
  exact this

/-! Nodes with their children's rows, all of the call's own -/
def Fits (w : World) (base : Nat) (v : Nv) (n : Nd) : Prop := v.id = n.id ∧ v.kd = n.kd ∧ v.fr = n.fr ∧ v.tt = Nd.to n ∧ lyI.Own w base v.kv n.kids
structure OwnT (w : World) (base : Nat) (nv : Value) (vs : List Nv) (ns : List Nd) : Prop where
  row : lyN.Own w base nv vs
  len : vs.length = ns.length
  fit : ∀ (i : Nat) v n, vs[i]? = some v → ns[i]? = some n → Fits w base v n
  apart : ∀ (i j : Nat) v u g, vs[i]? = some v → vs[j]? = some u → i ≠ j → v.kv.ownBlock = some g → u.kv.ownBlock ≠ some g
/-- The parser at block pb: its tokens, its place, the end, its nodes so far. -/
structure PS (w : World) (base pb : Nat) (ts : List Tk) (i en : Nat) (tv nv : Value) (vs : List Nv) (ns : List Nd) : Prop where
  obj : w.heap[pb]? = some (.cells #[tv, .int .i64 i, .int .i64 en, .int .i64 0, .int .i64 0, nv] 97 (0, 0))
  new : base ≤ pb
  toks : lyT.Own w base tv ts
  nodes : OwnT w base nv vs ns
def PSx (w : World) (base pb : Nat) (ts : List Tk) (i en : Nat) (ns : List Nd) : Prop := ∃ tv nv vs, PS w base pb ts i en tv nv vs ns

theorem type_ne {w : World} {g g' : Nat} {c c' : Array Value} {e e' : TypeId} (h : w.heap[g]? = some (.cells c e (0, 0))) (h' : w.heap[g']? = some (.cells c' e' (0, 0))) (hne : e ≠ e') : g ≠ g' := by
  intro e0
  subst e0
  rw [h] at h'
  cases h'
  exact hne rfl
theorem OwnT.below {w w' : World} {base : Nat} {nv : Value} {vs : List Nv} {ns : List Nd} (h : OwnT w base nv vs ns) (hb : Below w.heap.size w w') : OwnT w' base nv vs ns :=
  ⟨h.row.below hb, h.len, fun i v n hv hn => by
    obtain ⟨a, b, c, d, e⟩ := h.fit i v n hv hn
    exact ⟨a, b, c, d, e.below hb⟩, h.apart⟩
theorem PS.below {w w' : World} {base pb i en : Nat} {ts : List Tk} {tv nv : Value} {vs : List Nv} {ns : List Nd} (h : PS w base pb ts i en tv nv vs ns) (hb : Below w.heap.size w w') : PS w' base pb ts i en tv nv vs ns :=
  ⟨(hb.block pb (Array.getElem?_eq_some_iff.1 h.obj).1).trans h.obj, h.new, h.toks.below hb, h.nodes.below hb⟩
theorem PS.cells {w : World} {base pb i en : Nat} {ts : List Tk} {tv nv : Value} {vs : List Nv} {ns : List Nd} (h : PS w base pb ts i en tv nv vs ns) :
    w.cell? ⟨pb, 0, none⟩ = some tv ∧ w.cell? ⟨pb, 1, none⟩ = some (.int .i64 i) ∧ w.cell? ⟨pb, 2, none⟩ = some (.int .i64 en) ∧ w.cell? ⟨pb, 3, none⟩ = some (.int .i64 0) ∧ w.cell? ⟨pb, 4, none⟩ = some (.int .i64 0) ∧ w.cell? ⟨pb, 5, none⟩ = some nv ∧ (∀ j, w.frozen? ⟨pb, j, none⟩ = false) ∧ pb < w.heap.size := by
  have ho := h.obj
  refine ⟨?_, ?_, ?_, ?_, ?_, ?_, fun j => by simp [World.frozen?, ho], (Array.getElem?_eq_some_iff.1 ho).1⟩ <;> simp [World.cell?, ho]
/-- Nodes stay, when blocks of other types are written. -/
theorem OwnT.kept {w w' : World} {base g : Nat} {nv : Value} {vs : List Nv} {ns : List Nd} {c : Array Value} {e : TypeId} (h : OwnT w base nv vs ns) (hg : w.grownBy w' (some g)) (hc : w.heap[g]? = some (.cells c e (0, 0))) (h1 : e ≠ 109) (h2 : e ≠ 3) : OwnT w' base nv vs ns :=
  ⟨h.row.kept hg (fun k hk => by
      obtain ⟨cur, hcur⟩ := h.row.obj hk
      intro e0; cases e0
      exact type_ne hc hcur h1 rfl), h.len, fun i v n hv hn => by
    obtain ⟨a, b, c', d, e'⟩ := h.fit i v n hv hn
    exact ⟨a, b, c', d, e'.kept hg (fun k hk => by
      obtain ⟨cur, hcur⟩ := e'.obj hk
      intro e0; cases e0
      exact type_ne hc hcur h2 rfl)⟩, h.apart⟩
theorem toks_kept {w w' : World} {base g : Nat} {tv : Value} {ts : List Tk} {c : Array Value} {e : TypeId} (h : lyT.Own w base tv ts) (hg : w.grownBy w' (some g)) (hc : w.heap[g]? = some (.cells c e (0, 0))) (h1 : e ≠ 99) : lyT.Own w' base tv ts :=
  h.kept hg (fun k hk => by
      obtain ⟨cur, hcur⟩ := h.obj hk
      intro e0; cases e0
      exact type_ne hc hcur h1 rfl)
theorem set_grown (w : World) (g j : Nat) (u : Value) : w.grownBy (w.setCell ⟨g, j, none⟩ u) (some g) := grown_set (grown_refl w _) u
/-- The parser goes on to another place. -/
theorem PS.setI {w : World} {base pb i en : Nat} {ts : List Tk} {tv nv : Value} {vs : List Nv} {ns : List Nd} (h : PS w base pb ts i en tv nv vs ns) (k : Nat) : PS (w.setCell ⟨pb, 1, none⟩ (.int .i64 k)) base pb ts k en tv nv vs ns :=
  ⟨by rw [heap_setCell_at h.obj]; rfl, h.new, toks_kept h.toks (set_grown ..) h.obj (by decide), h.nodes.kept (set_grown ..) h.obj (by decide) (by decide)⟩
theorem PS.setI_below {w : World} {base pb i en : Nat} {ts : List Tk} {tv nv : Value} {vs : List Nv} {ns : List Nd} (h : PS w base pb ts i en tv nv vs ns) (u : Value) (j : Nat) : Below base w (w.setCell ⟨pb, j, none⟩ u) :=
  below_grown (set_grown ..) h.new (by have := h.new; have := h.cells.2.2.2.2.2.2.2; omega)

set_option maxRecDepth 100000 in
set_option maxHeartbeats 400000 in
theorem starts_any (t : Tk) (d : Nat) (w : World) : Calls Tryz.prog 55 #[.agg #[.int .i64 t.k, .int .i64 t.fr, .int .i64 (Tk.to t)], .int .i64 d] w fun e w' => e = .returned (.bool (starts t d)) ∧ Below w.heap.size w w' := by
  obtain ⟨k, fr, tt⟩ := t
  have S : Hid (starts ⟨k, fr, tt⟩ d = (k == 6 || k == 7 || k == 8 || ((k == 0 || k == 2) && decide (d ≤ 12)))) := Lib.hid rfl
  dsimp only
  rcases (by omega : k = 6 ∨ k = 7 ∨ k = 8 ∨ k = 0 ∨ k = 2 ∨ (k ≠ 6 ∧ k ≠ 7 ∧ k ≠ 8 ∧ k ≠ 0 ∧ k ≠ 2)) with rfl | rfl | rfl | rfl | rfl | ⟨h1, h2, h3, h4, h5⟩
  case inr.inr.inr.inr.inr =>
    have q1 : ((k : Int) == 6) = false := by simp; omega
    have q2 : ((k : Int) == 7) = false := by simp; omega
    have q3 : ((k : Int) == 8) = false := by simp; omega
    have q4 : ((k : Int) == 0) = false := by simp; omega
    have q5 : ((k : Int) == 2) = false := by simp; omega
    go_enter Tryz.func55, Tryz.ntmps55
    go_wp2
    go_ret
    refine ⟨retB ?_, (Below.refl _ _).alloc (Nat.le_refl _) _⟩
    rw [S.out]; simp [h1, h2, h3, h4, h5]
  all_goals
    go_enter Tryz.func55, Tryz.ntmps55
    go_wp2
    go_ret
    refine ⟨retB ?_, (Below.refl _ _).alloc (Nat.le_refl _) _⟩
    rw [S.out]; simp <;> omega
theorem obj_cells {W : World} {b : Nat} {cs : Array Value} {ty : TypeId} (h : W.heap[b]? = some (.cells cs ty (0, 0))) : (∀ j u, cs[j]? = some u → W.cell? ⟨b, j, none⟩ = some u) ∧ (∀ j, W.frozen? ⟨b, j, none⟩ = false) ∧ b < W.heap.size :=
  ⟨fun j u hu => by simp [World.cell?, h, hu], fun j => by simp [World.frozen?, h], (Array.getElem?_eq_some_iff.1 h).1⟩
theorem below_set {n : Nat} {w W : World} (h : Below n w W) {g j : Nat} (hg : n ≤ g) (u : Value) : Below n w (W.setCell ⟨g, j, none⟩ u) := h.setCell hg u
theorem below_drew {n : Nat} {w W : World} (h : Below n w W) : Below n w W.drew := ⟨h.os, h.tape, h.output, h.size, h.block⟩
/-- A new box of three numbers. -/
def Box3 (w W : World) (a b c : Int) : Prop := W.cell? ⟨w.heap.size, 0, none⟩ = some (.int .i64 a) ∧ W.cell? ⟨w.heap.size, 1, none⟩ = some (.int .i64 b) ∧ W.cell? ⟨w.heap.size, 2, none⟩ = some (.int .i64 c) ∧ (∀ j, W.frozen? ⟨w.heap.size, j, none⟩ = false) ∧ w.heap.size < W.heap.size
theorem new3 (w : World) (a b c : Int) (n : Nat) : Box3 w ((w.alloc (.cells #[.int .i64 a, .int .i64 b, .int .i64 c] 99)).drewN n) a b c := by
  have h : ((w.alloc (.cells #[.int .i64 a, .int .i64 b, .int .i64 c] 99)).drewN n).heap[w.heap.size]? = some (.cells #[.int .i64 a, .int .i64 b, .int .i64 c] 99 (0, 0)) := heap_alloc_new w _
  obtain ⟨h1, h2, h3⟩ := obj_cells h
  exact ⟨h1 0 _ rfl, h1 1 _ rfl, h1 2 _ rfl, h2, h3⟩
def NextPost (t : Tk) (is : Bool) (w : World) (e : Ending) (w' : World) : Prop := e = .returned (.tuple #[.agg #[.int .i64 t.k, .int .i64 t.fr, .int .i64 (Tk.to t)], .bool is]) ∧ Below w.heap.size w w'

set_option maxRecDepth 100000 in
set_option maxHeartbeats 1000000 in
theorem next_yes {w : World} {base pb i en : Nat} {ts : List Tk} {tv nv : Value} {vs : List Nv} {ns : List Nd} (h : PS w base pb ts i en tv nv vs ns) {t : Tk} (ht : ts[i]? = some t) :
    Calls Tryz.prog 54 #[.pointer (some ⟨pb, 0, none⟩)] w (NextPost t true w) := by
  have hi := (List.getElem?_eq_some_iff.1 ht).1
  obtain ⟨g, cap, rfl, hg0, hg1, hcap⟩ := h.toks.formS (by intro e; rw [e] at hi; simp at hi)
  have hat := h.toks.at ht
  have t0 : w.cell? ⟨g, i * 3, none⟩ = some (.int .i64 t.k) := hat 0 _ rfl
  have t1 : w.cell? ⟨g, i * 3 + 1, none⟩ = some (.int .i64 t.fr) := hat 1 _ rfl
  have t2 : w.cell? ⟨g, i * 3 + 2, none⟩ = some (.int .i64 (Tk.to t)) := hat 2 _ rfl
  obtain ⟨c0, c1, c2, c3, c4, c5, cf, hpb⟩ := h.cells
  have hb0 := (Below.refl w.heap.size w).alloc (Nat.le_refl _) (.cells #[.int .i64 0, .int .i64 0, .int .i64 0] 99)
  have B0 := Lib.hid hb0
  clear hat h ht
  have hI0 : (0 : Int) ≤ (i : Int) := by omega
  have hI1 : (i : Int) < (ts.length : Int) := by omega
  have hd : decide ((ts.length : Int) ≤ (i : Int)) = false := decide_eq_false (by omega)
  go_enter Tryz.func54, Tryz.ntmps54
  go_wp2_with fail
  go_quiet (fail)
  go_wp2_with fail
  have BW := Lib.hid (B0.out.trans ((dr_below _ nq).mono B0.out.size))
  have Z0 := Lib.hid (new3 w 0 0 0 nq)
  generalize ((w.alloc (.cells #[.int .i64 0, .int .i64 0, .int .i64 0] 99)).drewN nq) = W at BW Z0 ⊢
  have t0' := cell_later BW.out t0
  have t1' := cell_later BW.out t1
  have t2' := cell_later BW.out t2
  have c0' := cell_later BW.out c0
  have c1' := cell_later BW.out c1
  clear t0 t1 t2 c0 c1 c2 c3 c4 c5 cf B0 hb0
  obtain ⟨z0, z1, z2, zf, zl⟩ := Z0.out
  go_region
  go_wp2_with fail
  refine bodyPost_ret (v := .tuple #[.agg #[.int .i64 t.k, .int .i64 t.fr, .int .i64 (Tk.to t)], .bool true]) (by rw [results_cell_tmp rfl]; go_simp) rfl ⟨rfl, ?_⟩
  exact below_drew (below_set (below_set (below_set BW.out (Nat.le_refl _) _) (Nat.le_refl _) _) (Nat.le_refl _) _)

set_option maxRecDepth 100000 in
set_option maxHeartbeats 1000000 in
theorem next_no {w : World} {base pb i en : Nat} {ts : List Tk} {tv nv : Value} {vs : List Nv} {ns : List Nd} (h : PS w base pb ts i en tv nv vs ns) (hi : ts.length ≤ i) (hl : i ≤ 300) :
    Calls Tryz.prog 54 #[.pointer (some ⟨pb, 0, none⟩)] w (NextPost ⟨0, en, en⟩ false w) := by
  obtain ⟨p, cap, rfl⟩ := h.toks.form
  obtain ⟨c0, c1, c2, c3, c4, c5, cf, hpb⟩ := h.cells
  have hb0 := (Below.refl w.heap.size w).alloc (Nat.le_refl _) (.cells #[.int .i64 0, .int .i64 0, .int .i64 0] 99)
  have B0 := Lib.hid hb0
  clear h
  have hI0 : (0 : Int) ≤ (i : Int) := by omega
  have hI1 : (ts.length : Int) ≤ (i : Int) := by omega
  have hd : decide ((ts.length : Int) ≤ (i : Int)) = true := decide_eq_true (by omega)
  go_enter Tryz.func54, Tryz.ntmps54
  go_wp2_with fail
  go_quiet (fail)
  go_wp2_with fail
  have BW := Lib.hid (B0.out.trans ((dr_below _ nq).mono B0.out.size))
  have Z0 := Lib.hid (new3 w 0 0 0 nq)
  generalize ((w.alloc (.cells #[.int .i64 0, .int .i64 0, .int .i64 0] 99)).drewN nq) = W at BW Z0 ⊢
  have c2' := cell_later BW.out c2
  clear c0 c1 c2 c3 c4 c5 cf B0 hb0
  obtain ⟨z0, z1, z2, zf, zl⟩ := Z0.out
  go_region
  go_wp2_with fail
  refine bodyPost_ret (v := .tuple #[.agg #[.int .i64 0, .int .i64 en, .int .i64 en], .bool false]) (by rw [results_cell_tmp rfl]; go_simp) rfl ⟨rfl, ?_⟩
  exact below_drew (below_set (below_set (below_set BW.out (Nat.le_refl _) _) (Nat.le_refl _) _) (Nat.le_refl _) _)

/-- Boxes of tokens stay, and where a parser's tokens lie. -/
def Keeps (w w' : World) : Prop := (∀ (k : Nat) (c : Array Value), w.heap[k]? = some (.cells c 99 (0, 0)) → w'.heap[k]? = some (.cells c 99 (0, 0))) ∧
  (∀ (k : Nat) (c : Array Value), w.heap[k]? = some (.cells c 97 (0, 0)) → ∃ c' : Array Value, w'.heap[k]? = some (.cells c' 97 (0, 0)) ∧ c'[0]? = c[0]?)
theorem Keeps.trans {a b c : World} (h : Keeps a b) (h' : Keeps b c) : Keeps a c := ⟨fun k x hx => h'.1 k x (h.1 k x hx), fun k x hx => by
  obtain ⟨y, h1, h2⟩ := h.2 k x hx
  obtain ⟨z, h3, h4⟩ := h'.2 k y h1
  exact ⟨z, h3, h4.trans h2⟩⟩
theorem keeps_below {w w' : World} (h : Below w.heap.size w w') : Keeps w w' := ⟨fun k _ hk => (h.block k (Array.getElem?_eq_some_iff.1 hk).1).trans hk, fun k c hk => ⟨c, (h.block k (Array.getElem?_eq_some_iff.1 hk).1).trans hk, rfl⟩⟩
theorem keeps_grown {w w' : World} {row : Option Nat} (h : w.grownBy w' row) (hr : ∀ g, row = some g → ∃ cur e, w.heap[g]? = some (.cells cur e (0, 0)) ∧ e ≠ 99 ∧ e ≠ 97) : Keeps w w' := by
  have key : ∀ (k : Nat) (c : Array Value) (e : TypeId), e = 99 ∨ e = 97 → w.heap[k]? = some (.cells c e (0, 0)) → w'.heap[k]? = some (.cells c e (0, 0)) := fun k c e he hk =>
    (h.block k (Array.getElem?_eq_some_iff.1 hk).1 (fun e0 => by
      obtain ⟨cur, e', h1, h2, h3⟩ := hr k e0.symm
      rcases he with rfl | rfl
      · exact type_ne h1 hk h2 rfl
      · exact type_ne h1 hk h3 rfl)).trans hk
  exact ⟨fun k c hk => key k c 99 (.inl rfl) hk, fun k c hk => ⟨c, key k c 97 (.inr rfl) hk, rfl⟩⟩
theorem keeps_setP {w : World} {pb j : Nat} {c : Array Value} (h : w.heap[pb]? = some (.cells c 97 (0, 0))) (hj : j ≠ 0) (u : Value) : Keeps w (w.setCell ⟨pb, j, none⟩ u) := by
  have far : ∀ (k : Nat) (o : Obj), k ≠ pb → w.heap[k]? = some o → (w.setCell ⟨pb, j, none⟩ u).heap[k]? = some o := fun k o hk ho =>
    ((set_grown w pb j u).block k (Array.getElem?_eq_some_iff.1 ho).1 (fun e => hk (Option.some.inj e))).trans ho
  refine ⟨fun k x hx => far k _ (fun e => ?_) hx, fun k x hx => ?_⟩
  · subst e; rw [h] at hx; cases hx
  · by_cases e : k = pb
    · subst e
      rw [h] at hx
      cases hx
      refine ⟨_, heap_setCell_at h u, ?_⟩
      rw [Array.getElem?_setIfInBounds, if_neg hj]
    · exact ⟨x, far k _ e hx, rfl⟩
theorem keeps_new {w W : World} (h : Keeps w W) {b j : Nat} (hb : w.heap.size ≤ b) (u : Value) : Keeps w (W.setCell ⟨b, j, none⟩ u) := by
  have far : ∀ (k : Nat) (o : Obj), k ≠ b → W.heap[k]? = some o → (W.setCell ⟨b, j, none⟩ u).heap[k]? = some o := fun k o hk ho =>
    ((set_grown W b j u).block k (Array.getElem?_eq_some_iff.1 ho).1 (fun e => hk (Option.some.inj e))).trans ho
  refine ⟨fun k x hx => far k _ (fun e => ?_) (h.1 k x hx), fun k x hx => ?_⟩
  · have := (Array.getElem?_eq_some_iff.1 hx).1; omega
  · obtain ⟨y, h1, h2⟩ := h.2 k x hx
    exact ⟨y, far k _ (fun e => by have := (Array.getElem?_eq_some_iff.1 hx).1; omega) h1, h2⟩
/-- The tokens lie where they lay. -/
theorem keeps_tv {w W : World} {base base' pb i i' en en' : Nat} {ts ts' : List Tk} {tv tv' nv nv' : Value} {vs vs' : List Nv} {ns ns' : List Nd} (hk : Keeps w W) (h : PS w base pb ts i en tv nv vs ns) (h' : PS W base' pb ts' i' en' tv' nv' vs' ns') : tv' = tv := by
  obtain ⟨c, h1, h2⟩ := hk.2 pb _ h.obj
  rw [h'.obj] at h1
  cases h1
  simpa using h2
/-- What a method that turns the parser leaves. -/
def StepPost (e0 : Ending) (base pb : Nat) (ts : List Tk) (i en : Nat) (ns : List Nd) (w : World) (e : Ending) (w' : World) : Prop := e = e0 ∧ PSx w' base pb ts i en ns ∧ Below base w w' ∧ Keeps w w'

theorem five_new {w : World} {H : Nat} (hH : w.heap.size = H) (x : Nv) : ∀ j u, (Nv.cells x)[j]? = some u → (w.alloc (.cells #[.int .i64 x.id, .int .i64 x.kd, .int .i64 x.fr, .int .i64 x.tt, x.kv] 109)).cell? ((⟨H, 0, none⟩ : Addr).add j) = some u := by
  subst hH
  exact World.news_of_block (heap_alloc_new w _)
theorem one_new {w : World} {H : Nat} (hH : w.heap.size = H) (x : Int) : ∀ j u, [Value.int .i64 x][j]? = some u → (w.alloc (.cells #[.int .i64 x] 3)).cell? ((⟨H, 0, none⟩ : Addr).add j) = some u := by
  subst hH
  exact World.news_of_block (heap_alloc_new w _)
/-- One node more. -/
theorem OwnT.push {w W : World} {base g cap : Nat} {nv : Value} {vs : List Nv} {ns : List Nd} (h : OwnT w base nv vs ns) (hg : w.grownBy W nv.ownBlock) (v : Nv) (n : Nd) (hn : n.kids = []) (hv : v.id = n.id ∧ v.kd = n.kd ∧ v.fr = n.fr ∧ v.tt = Nd.to n ∧ v.kv = .slice none 0 0)
    (hr : W.ownsRow base 109 5 (.slice (some ⟨g, 0, none⟩) (vs.length + 1) cap) (vs.length + 1) (lyN.all vs ++ Nv.cells v)) : OwnT W base (.slice (some ⟨g, 0, none⟩) (vs.length + 1) cap) (vs ++ [v]) (ns ++ [n]) := by
  refine ⟨?_, by simp [h.len], ?_, ?_⟩
  · unfold Ly.Own
    rw [List.length_append, List.length_singleton, all_app, all_one]
    exact hr
  · intro i u m hu hm
    by_cases hi : i < vs.length
    · rw [List.getElem?_append_left hi] at hu
      rw [List.getElem?_append_left (by rw [← h.len]; exact hi)] at hm
      obtain ⟨a, b, c, d, e⟩ := h.fit i u m hu hm
      refine ⟨a, b, c, d, e.kept hg (fun k hk e0 => ?_)⟩
      obtain ⟨cur, hcur⟩ := e.obj hk
      obtain ⟨cur', hcur'⟩ := h.row.obj e0
      exact type_ne hcur hcur' (by decide) rfl
    · have hi2 : i = vs.length := by
        have := (List.getElem?_eq_some_iff.1 hu).1
        simp at this; omega
      subst hi2
      rw [List.getElem?_append_right (Nat.le_refl _), Nat.sub_self] at hu
      rw [List.getElem?_append_right (by rw [h.len]; exact Nat.le_refl _), h.len, Nat.sub_self] at hm
      simp at hu hm
      subst hu; subst hm
      obtain ⟨a, b, c, d, e⟩ := hv
      exact ⟨a, b, c, d, by rw [hn, e]; exact Ly.Own.nil _ _⟩
  · intro i j x y k hx hy hij hk
    have key : ∀ (i : Nat) (x : Nv), (vs ++ [v])[i]? = some x → x.kv.ownBlock = some k → vs[i]? = some x := by
      intro i x hx hk
      by_cases hi : i < vs.length
      · rwa [List.getElem?_append_left hi] at hx
      · have hi2 : i = vs.length := by
          have := (List.getElem?_eq_some_iff.1 hx).1
          simp at this; omega
        subst hi2
        rw [List.getElem?_append_right (Nat.le_refl _), Nat.sub_self] at hx
        simp at hx
        subst hx
        rw [hv.2.2.2.2] at hk
        cases hk
    intro hk2
    exact h.apart i j x y k (key i x hx hk) (key j y hy hk2) hij hk hk2

/-- The parser's own block stays, when the nodes' row is written. -/
theorem PS.objN {w W : World} {base pb i en : Nat} {ts : List Tk} {tv nv : Value} {vs : List Nv} {ns : List Nd} (h : PS w base pb ts i en tv nv vs ns) (hg : w.grownBy W nv.ownBlock) : W.heap[pb]? = some (.cells #[tv, .int .i64 i, .int .i64 en, .int .i64 0, .int .i64 0, nv] 97 (0, 0)) :=
  (hg.block pb (Array.getElem?_eq_some_iff.1 h.obj).1 (fun e => by
    obtain ⟨cur, hcur⟩ := h.nodes.row.obj e.symm
    exact type_ne h.obj hcur (by decide) rfl)).trans h.obj
theorem PS.toksN {w W : World} {base pb i en : Nat} {ts : List Tk} {tv nv : Value} {vs : List Nv} {ns : List Nd} (h : PS w base pb ts i en tv nv vs ns) (hg : w.grownBy W nv.ownBlock) : lyT.Own W base tv ts :=
  h.toks.kept hg (fun k hk e => by
    obtain ⟨cur, hcur⟩ := h.toks.obj hk
    obtain ⟨cur', hcur'⟩ := h.nodes.row.obj e
    exact type_ne hcur hcur' (by decide) rfl)
theorem PS.setN {W : World} {base pb i en : Nat} {ts : List Tk} {tv nv nv' : Value} {vs : List Nv} {ns : List Nd} (ho : W.heap[pb]? = some (.cells #[tv, .int .i64 i, .int .i64 en, .int .i64 0, .int .i64 0, nv] 97 (0, 0))) (hb : base ≤ pb) (ht : lyT.Own W base tv ts) (hn : OwnT W base nv' vs ns) :
    PS (W.setCell ⟨pb, 5, none⟩ nv') base pb ts i en tv nv' vs ns :=
  ⟨by rw [heap_setCell_at ho]; rfl, hb, toks_kept ht (set_grown ..) ho (by decide), hn.kept (set_grown ..) ho (by decide) (by decide)⟩

set_option maxRecDepth 100000 in
set_option maxHeartbeats 1000000 in
theorem node_any {w : World} {base pb i en : Nat} {ts : List Tk} {ns : List Nd} (h : PSx w base pb ts i en ns) (hl : ns.length ≤ 4096) (kd fr tt : Nat) :
    Calls Tryz.prog 53 #[.pointer (some ⟨pb, 0, none⟩), .int .i64 kd, .int .i64 fr, .int .i64 tt] w (StepPost (.returned (.int .i64 ns.length)) base pb ts i en (ns ++ [⟨ns.length, kd, fr, tt, []⟩]) w) := by
  obtain ⟨tv, nv, vs, h⟩ := h
  obtain ⟨i0, hi, hz0, hz1, hz2⟩ := info_parts info63
  obtain ⟨p, cap, rfl⟩ := h.nodes.row.form
  obtain ⟨c0, c1, c2, c3, c4, c5, cf, hpb⟩ := h.cells
  have HL := Lib.hid h.nodes.len
  have H := Lib.hid h
  have hN : vs.length ≤ 4096 := by rw [HL.out]; exact hl
  rw [← HL.out]
  generalize hM : vs.length = M at *
  have HM := Lib.hid hM
  clear h hM hl
  have OW : Hid (∀ o, (w.alloc o).ownsRow base 109 5 (.slice p M cap) M (lyN.all vs)) := Lib.hid (fun o => by
    have := H.out.nodes.row.below ((Below.refl _ _).alloc (Nat.le_refl _) o)
    unfold Ly.Own at this
    rw [HM.out] at this
    exact this)
  go_enter Tryz.func53, Tryz.ntmps53
  go_wp2_with (at_builtin; refine wpList_append_lies _ rfl _ _ 24 rfl base 109 i0 _ 5 56 Tryz.underlying24 hi hz0 hz1 hz2 rfl (by decide) (.slice p M cap) M (lyN.all vs) rfl (OW.out _) ⟨w.heap.size, 0, none⟩ 1 1 (Nv.cells ⟨M, kd, fr, tt, none, 0, 0⟩) rfl rfl (five_new rfl ⟨M, kd, fr, tt, none, 0, 0⟩) (lyN.one ⟨M, kd, fr, tt, none, 0, 0⟩) (by decide) (by unfold maxLen; omega) (by omega) (Nat.le_trans (Nat.le_trans H.out.new (Nat.le_of_lt hpb)) (by simp)) (w.heap.size + 1) (by simp) ?_; intro g2 cap2 w6 hown hgrow hgg hlt2; have HO := Lib.hid hown; have HG := Lib.hid (grown_trans (grown_of_below ((Below.refl w.heap.size w).alloc (Nat.le_refl _) _) _) hgrow (fun g h => .inl h)); clear hown hgrow hgg; have Hob := Lib.hid (H.out.objN HG.out); have c5' := (obj_cells Hob.out).1 5 _ rfl; have cf' := (obj_cells Hob.out).2.1)
  go_ret
  have hm := HM.out
  subst hm
  refine ⟨rfl, ⟨tv, _, _, PS.setN Hob.out H.out.new (H.out.toksN HG.out) (H.out.nodes.push HG.out ⟨vs.length, kd, fr, tt, none, 0, 0⟩ _ rfl ⟨by rw [HL.out], rfl, rfl, rfl, rfl⟩ HO.out)⟩, ?_, ?_⟩
  · exact below_set (below_grownN HG.out (fun g hg => (H.out.nodes.row.lt hg).1) (Nat.le_trans H.out.new (Nat.le_of_lt hpb))) H.out.new _
  · refine (keeps_grown HG.out (fun g hg => ?_)).trans (keeps_setP Hob.out (by decide) _)
    obtain ⟨cur, hcur⟩ := H.out.nodes.row.obj hg
    exact ⟨cur, _, hcur, by decide, by decide⟩

theorem grown_setNew {w W : World} {row : Option Nat} {g j : Nat} (h : w.grownBy W row) (hg : w.heap.size ≤ g) (u : Value) : w.grownBy (W.setCell ⟨g, j, none⟩ u) row :=
  grown_trans h (set_grown W g j u) (fun k e => by cases e; exact .inr hg)
theorem setAll_one (W : World) (g o : Nat) (us : List Value) : W.grownBy (setAll W g o us) (some g) := grown_setAll us o (grown_refl W _)
/-- A node written over with one that has the same children's row. -/
theorem OwnT.write {w : World} {base g n cap id : Nat} {vs : List Nv} {ns : List Nd} {v v' : Nv} {m m' : Nd} (h : OwnT w base (.slice (some ⟨g, 0, none⟩) n cap) vs ns) (hv : vs[id]? = some v) (hm : ns[id]? = some m)
    (hf : v'.id = m'.id ∧ v'.kd = m'.kd ∧ v'.fr = m'.fr ∧ v'.tt = Nd.to m') (hk : v'.kv = v.kv) (hk2 : m'.kids = m.kids) : OwnT (setAll w g (id * 5) (Nv.cells v')) base (.slice (some ⟨g, 0, none⟩) n cap) (vs.set id v') (ns.set id m') := by
  have hlt := (List.getElem?_eq_some_iff.1 hv).1
  have keep : ∀ (i : Nat) (u : Nv), (vs.set id v')[i]? = some u → ∃ u0, vs[i]? = some u0 ∧ u.kv = u0.kv ∧ (i ≠ id → u = u0) ∧ (i = id → u = v') := by
    intro i u hu
    by_cases e : i = id
    · subst e
      rw [List.getElem?_set_self hlt] at hu
      cases hu
      exact ⟨v, hv, hk, fun h => absurd rfl h, fun _ => rfl⟩
    · rw [List.getElem?_set_ne (Ne.symm e)] at hu
      exact ⟨u, hu, rfl, fun _ => rfl, fun h => absurd h e⟩
  refine ⟨h.row.set hv v', by simp [h.len], ?_, ?_⟩
  · intro i u x hu hx
    obtain ⟨u0, hu0, hkv, h1, h2⟩ := keep i u hu
    by_cases e : i = id
    · have hu2 := h2 e
      subst e
      rw [List.getElem?_set_self (by rw [← h.len]; exact hlt)] at hx
      cases hx
      rw [hu2]
      obtain ⟨a, b, c, d⟩ := hf
      obtain ⟨-, -, -, -, e5⟩ := h.fit i v m hv hm
      refine ⟨a, b, c, d, ?_⟩
      rw [hk, hk2]
      exact e5.kept (setAll_one ..) (fun k hk' e0 => by
        cases e0
        obtain ⟨cur, hcur⟩ := e5.obj hk'
        obtain ⟨cur', hcur'⟩ := h.row.obj (g := g) rfl
        exact type_ne hcur hcur' (by decide) rfl)
    · rw [List.getElem?_set_ne (Ne.symm e)] at hx
      obtain rfl := h1 e
      obtain ⟨a, b, c, d, e5⟩ := h.fit i u x hu0 hx
      exact ⟨a, b, c, d, e5.kept (setAll_one ..) (fun k hk' e0 => by
        cases e0
        obtain ⟨cur, hcur⟩ := e5.obj hk'
        obtain ⟨cur', hcur'⟩ := h.row.obj (g := g) rfl
        exact type_ne hcur hcur' (by decide) rfl)⟩
  · intro i j x y k hx hy hij hk'
    obtain ⟨x0, hx0, ex, -, -⟩ := keep i x hx
    obtain ⟨y0, hy0, ey, -, -⟩ := keep j y hy
    rw [ex] at hk'
    rw [ey]
    exact h.apart i j x0 y0 k hx0 hy0 hij hk'
/-- One child more. -/
theorem OwnT.kid {w W : World} {base g n cap id g2 cap2 : Nat} {vs : List Nv} {ns : List Nd} {v : Nv} {m : Nd} {c : Int} (h : OwnT w base (.slice (some ⟨g, 0, none⟩) n cap) vs ns) (hv : vs[id]? = some v) (hm : ns[id]? = some m)
    (hg : w.grownBy W v.kv.ownBlock) (ho : W.ownsRow base 3 1 (.slice (some ⟨g2, 0, none⟩) (m.kids.length + 1) cap2) (m.kids.length + 1) (lyI.all m.kids ++ [.int .i64 c])) (hgg : v.kv.ownBlock = some g2 ∨ w.heap.size ≤ g2) :
    OwnT (setAll W g (id * 5) (Nv.cells ⟨v.id, v.kd, v.fr, v.tt, some ⟨g2, 0, none⟩, m.kids.length + 1, cap2⟩)) base (.slice (some ⟨g, 0, none⟩) n cap) (vs.set id ⟨v.id, v.kd, v.fr, v.tt, some ⟨g2, 0, none⟩, m.kids.length + 1, cap2⟩) (ns.set id ⟨m.id, m.kd, m.fr, Nd.to m, m.kids ++ [c]⟩) := by
  have hlt := (List.getElem?_eq_some_iff.1 hv).1
  obtain ⟨curG, hG⟩ := h.row.obj (g := g) rfl
  have rowW : lyN.Own W base (.slice (some ⟨g, 0, none⟩) n cap) vs := h.row.kept hg (fun k hk e0 => by
    cases hk
    obtain ⟨cur, hcur⟩ := (h.fit id v m hv hm).2.2.2.2.obj e0
    exact type_ne hG hcur (by decide) rfl)
  obtain ⟨curW, hGW⟩ := rowW.obj (g := g) rfl
  have old : ∀ (i : Nat) (u : Nv) (k : Nat), vs[i]? = some u → u.kv.ownBlock = some k → k < w.heap.size := by
    intro i u k hu hk
    have hl : i < ns.length := by rw [← h.len]; exact (List.getElem?_eq_some_iff.1 hu).1
    exact ((h.fit i u _ hu (List.getElem?_eq_getElem hl)).2.2.2.2.lt hk).2
  have keep : ∀ (i : Nat) (u : Nv), (vs.set id ⟨v.id, v.kd, v.fr, v.tt, some ⟨g2, 0, none⟩, m.kids.length + 1, cap2⟩)[i]? = some u → (i ≠ id ∧ vs[i]? = some u) ∨ (i = id ∧ u = ⟨v.id, v.kd, v.fr, v.tt, some ⟨g2, 0, none⟩, m.kids.length + 1, cap2⟩) := by
    intro i u hu
    by_cases e : i = id
    · subst e
      rw [List.getElem?_set_self hlt] at hu
      cases hu
      exact .inr ⟨rfl, rfl⟩
    · rw [List.getElem?_set_ne (Ne.symm e)] at hu
      exact .inl ⟨e, hu⟩
  have far : ∀ (i : Nat) (u : Nv), i ≠ id → vs[i]? = some u → u.kv.ownBlock ≠ some g2 := by
    intro i u hi hu hk
    rcases hgg with e | e
    · exact h.apart i id u v g2 hu hv hi hk e
    · have := old i u g2 hu hk; omega
  refine ⟨rowW.set hv _, by simp [h.len], ?_, ?_⟩
  · intro i u x hu hx
    rcases keep i u hu with ⟨e, hu⟩ | ⟨e, rfl⟩
    · rw [List.getElem?_set_ne (Ne.symm e)] at hx
      obtain ⟨a, b, c', d, e5⟩ := h.fit i u x hu hx
      have e6 : lyI.Own W base u.kv x.kids := e5.kept hg (fun k hk e0 => h.apart i id u v k hu hv e hk e0)
      exact ⟨a, b, c', d, e6.kept (setAll_one ..) (fun k hk' e0 => by
        cases e0
        obtain ⟨cur, hcur⟩ := e6.obj hk'
        exact type_ne hcur hGW (by decide) rfl)⟩
    · subst e
      rw [List.getElem?_set_self (by rw [← h.len]; exact hlt)] at hx
      cases hx
      obtain ⟨a, b, c', d, e5⟩ := h.fit i v m hv hm
      have e6 : lyI.Own W base (.slice (some ⟨g2, 0, none⟩) (m.kids.length + 1) cap2) (m.kids ++ [c]) := by
        unfold Ly.Own
        rw [List.length_append, List.length_singleton, all_app, all_one]
        exact ho
      exact ⟨a, b, c', d, e6.kept (setAll_one ..) (fun k hk' e0 => by
        cases e0
        obtain ⟨cur, hcur⟩ := e6.obj hk'
        exact type_ne hcur hGW (by decide) rfl)⟩
  · intro i j x y k hx hy hij hk hk2
    rcases keep i x hx with ⟨e, hx⟩ | ⟨e, rfl⟩
    · rcases keep j y hy with ⟨e', hy⟩ | ⟨e', rfl⟩
      · exact h.apart i j x y k hx hy hij hk hk2
      · cases hk2
        exact far i x e hx hk
    · rcases keep j y hy with ⟨e', hy⟩ | ⟨e', rfl⟩
      · cases hk
        exact far j y e' hy hk2
      · exact hij (e.trans e'.symm)

/-- A child's number is added to a node's. -/
def kidN (ns : List Nd) (id : Nat) (c : Int) : List Nd := ns.modify id (fun m => ⟨m.id, m.kd, m.fr, Nd.to m, m.kids ++ [c]⟩)
theorem kidN_set {ns : List Nd} {id : Nat} {m : Nd} (h : ns[id]? = some m) (c : Int) : kidN ns id c = ns.set id ⟨m.id, m.kd, m.fr, Nd.to m, m.kids ++ [c]⟩ := by
  unfold kidN
  have hl := (List.getElem?_eq_some_iff.1 h).1
  apply List.ext_getElem?
  intro j
  rw [List.getElem?_modify, List.getElem?_set]
  by_cases e : id = j
  · subst e
    rw [if_pos rfl, if_pos hl, h]; simp
  · simp [e]
theorem box_far {w W : World} {cs : Array Value} {ty : Nat} {o : Obj} {row : Option Nat} (h : ((w.alloc (.cells cs ty)).alloc o).grownBy W row) (hr : ∀ k, row = some k → k < w.heap.size) : W.heap[w.heap.size]? = some (.cells cs ty (0, 0)) := by
  rw [h.block w.heap.size (by simp; omega) (fun e => by have := hr _ e.symm; omega), Below.heap_alloc _ _ _ (by simp)]
  exact heap_alloc_new w _

set_option maxRecDepth 100000 in
set_option maxHeartbeats 2000000 in
theorem kid_any {w : World} {base pb i en : Nat} {ts : List Tk} {ns : List Nd} (h : PSx w base pb ts i en ns) (id : Nat) (m : Nd) (hm : ns[id]? = some m) (hkl : m.kids.length ≤ 4096) (c : Int) :
    Calls Tryz.prog 58 #[.pointer (some ⟨pb, 0, none⟩), .int .i64 id, .int .i64 c] w (StepPost (.returned (.tuple #[])) base pb ts i en (kidN ns id c) w) := by
  obtain ⟨tv, nv, vs, h⟩ := h
  obtain ⟨i0, hi, hz0, hz1, hz2⟩ := info_parts info3
  have hid := (List.getElem?_eq_some_iff.1 hm).1
  have hvl : id < vs.length := by rw [h.nodes.len]; exact hid
  obtain ⟨v, hv⟩ : ∃ v, vs[id]? = some v := ⟨_, List.getElem?_eq_getElem hvl⟩
  obtain ⟨g, cap, rfl, hg0, hg1, hcap⟩ := h.nodes.row.formS (by intro e; rw [e] at hvl; simp at hvl)
  have hat := h.nodes.row.at hv
  have n0 : w.cell? ⟨g, id * 5, none⟩ = some (.int .i64 v.id) := hat 0 _ rfl
  have n1 : w.cell? ⟨g, id * 5 + 1, none⟩ = some (.int .i64 v.kd) := hat 1 _ rfl
  have n2 : w.cell? ⟨g, id * 5 + 2, none⟩ = some (.int .i64 v.fr) := hat 2 _ rfl
  have n3 : w.cell? ⟨g, id * 5 + 3, none⟩ = some (.int .i64 v.tt) := hat 3 _ rfl
  have n4 : w.cell? ⟨g, id * 5 + 4, none⟩ = some v.kv := hat 4 _ rfl
  obtain ⟨c0, c1, c2, c3, c4, c5, cf, hpb⟩ := h.cells
  have FT := Lib.hid (h.nodes.fit id v m hv hm)
  obtain ⟨kp, kcap, hkv⟩ := FT.out.2.2.2.2.form
  have H := Lib.hid h
  rw [hkv] at n4
  have HKV := Lib.hid hkv; clear hkv
  generalize hM : m.kids.length = K at *
  have HK := Lib.hid hM
  generalize hN : vs.length = N at *
  have HN := Lib.hid hN
  have hNi : (id : Int) < (N : Int) := by omega
  clear h hat hM hN
  have OW : Hid (∀ a b, ((w.alloc a).alloc b).ownsRow base 3 1 (.slice kp K kcap) K (lyI.all m.kids)) := Lib.hid (fun a b => by
    have := FT.out.2.2.2.2.below (below2 (Below.refl w.heap.size w) (Nat.le_refl _) a b)
    rw [HKV.out] at this
    unfold Ly.Own at this
    rw [HK.out] at this
    exact this)
  have NB : Hid (∀ k, (Value.slice kp K kcap).ownBlock = some k → k < w.heap.size) := Lib.hid (fun k hk => (FT.out.2.2.2.2.lt (by rw [HKV.out]; exact hk)).2)
  go_enter Tryz.func58, Tryz.ntmps58
  go_wp2_with (at_builtin; refine wpList_append_lies _ rfl _ _ 49 rfl base 3 i0 _ 1 8 Tryz.underlying49 hi hz0 hz1 hz2 rfl (by decide) (.slice kp K kcap) K (lyI.all m.kids) rfl (OW.out _ _) ⟨w.heap.size + 1, 0, none⟩ 1 1 [.int .i64 c] rfl rfl (one_new (by simp) c) (lyI.one c) (by decide) (by unfold maxLen; omega) (by omega) (Nat.le_trans (Nat.le_trans H.out.new (Nat.le_of_lt hpb)) (by simp; omega)) (w.heap.size + 2) (by simp) ?_; intro g2 cap2 w6 hown hgrow hgg hlt2; have HO := Lib.hid hown; have HG0 := Lib.hid hgrow; have HGG := Lib.hid hgg; clear hown hgrow hgg; have HB := Lib.hid (box_far HG0.out NB.out); have b4 := (obj_cells HB.out).1 4 _ rfl; have bf := (obj_cells HB.out).2.1)
  have HG : Hid (w.grownBy (w6.setCell ⟨w.heap.size, 4, none⟩ (.slice (some ⟨g2, 0, none⟩) (K + 1) cap2)) v.kv.ownBlock) := Lib.hid (by
    rw [HKV.out]
    exact grown_setNew (grown_trans (grown_of_below (below2 (Below.refl w.heap.size w) (Nat.le_refl _) _ _) _) HG0.out (fun g h => .inl h)) (Nat.le_refl _) _)
  have HB2 : Hid ((w6.setCell ⟨w.heap.size, 4, none⟩ (.slice (some ⟨g2, 0, none⟩) (K + 1) cap2)).heap[w.heap.size]? = some (.cells #[.int .i64 v.id, .int .i64 v.kd, .int .i64 v.fr, .int .i64 v.tt, .slice (some ⟨g2, 0, none⟩) (K + 1) cap2] 109 (0, 0))) := Lib.hid (by rw [heap_setCell_at HB.out]; rfl)
  have HGG2 : Hid (v.kv.ownBlock = some g2 ∨ w.heap.size ≤ g2) := Lib.hid (by
    rcases HGG.out with e | e
    · exact .inl (by rw [HKV.out]; exact e)
    · exact .inr (by omega))
  have HO2 : Hid ((w6.setCell ⟨w.heap.size, 4, none⟩ (.slice (some ⟨g2, 0, none⟩) (K + 1) cap2)).ownsRow base 3 1 (.slice (some ⟨g2, 0, none⟩) (K + 1) cap2) (K + 1) (lyI.all m.kids ++ [.int .i64 c])) := Lib.hid (by
    refine World.ownsRow.kept HO.out (set_grown ..) (.inr (fun e => ?_))
    have e' : g2 = w.heap.size := Option.some.inj e
    rcases HGG.out with h | h
    · have := NB.out g2 h; omega
    · omega)
  clear HO HG0 HGG HB b4 bf
  generalize w6.setCell ⟨w.heap.size, 4, none⟩ (.slice (some ⟨g2, 0, none⟩) (K + 1) cap2) = W at HG HB2 HO2 ⊢
  have PO : Hid (W.heap[pb]? = some (.cells #[tv, .int .i64 i, .int .i64 en, .int .i64 0, .int .i64 0, .slice (some ⟨g, 0, none⟩) N cap] 97 (0, 0))) := Lib.hid (by
    refine (HG.out.block pb hpb (fun e => ?_)).trans H.out.obj
    obtain ⟨cur, hcur⟩ := FT.out.2.2.2.2.obj e.symm
    exact type_ne H.out.obj hcur (by decide) rfl)
  have RO : Hid (lyN.Own W base (.slice (some ⟨g, 0, none⟩) N cap) vs) := Lib.hid (H.out.nodes.row.kept HG.out (fun k hk e => by
    obtain ⟨cur, hcur⟩ := FT.out.2.2.2.2.obj e
    obtain ⟨cur', hcur'⟩ := H.out.nodes.row.obj hk
    exact type_ne hcur' hcur (by decide) rfl))
  have hat := RO.out.at hv
  have m0 : W.cell? ⟨g, id * 5, none⟩ = some (.int .i64 v.id) := hat 0 _ rfl
  have m1 : W.cell? ⟨g, id * 5 + 1, none⟩ = some (.int .i64 v.kd) := hat 1 _ rfl
  have m2 : W.cell? ⟨g, id * 5 + 2, none⟩ = some (.int .i64 v.fr) := hat 2 _ rfl
  have m3 : W.cell? ⟨g, id * 5 + 3, none⟩ = some (.int .i64 v.tt) := hat 3 _ rfl
  have m4 : W.cell? ⟨g, id * 5 + 4, none⟩ = some v.kv := hat 4 _ rfl
  have mf := RO.out.frozen
  have p5 := (obj_cells PO.out).1 5 _ rfl
  have b0 := (obj_cells HB2.out).1 0 _ rfl
  have b1 := (obj_cells HB2.out).1 1 _ rfl
  have b2 := (obj_cells HB2.out).1 2 _ rfl
  have b3 := (obj_cells HB2.out).1 3 _ rfl
  have b4 := (obj_cells HB2.out).1 4 _ rfl
  clear hat n0 n1 n2 n3 n4 c0 c1 c2 c3 c4 c5 cf
  go_region
  go_wp2_with fail
  go_end0
  have hk := HK.out
  subst hk
  have K1 := H.out.nodes.kid hv hm HG.out HO2.out HGG2.out
  have hbase : base ≤ w.heap.size := Nat.le_trans H.out.new (Nat.le_of_lt hpb)
  have B1 : Below base w W := below_grownN HG.out (fun k hk => (FT.out.2.2.2.2.lt hk).1) hbase
  have P1 : PS (setAll W g (id * 5) (Nv.cells ⟨v.id, v.kd, v.fr, v.tt, some ⟨g2, 0, none⟩, m.kids.length + 1, cap2⟩)) base pb ts i en tv _ _ _ :=
    ⟨((setAll_one W g _ _).block pb (Array.getElem?_eq_some_iff.1 PO.out).1 (fun e => by
        obtain ⟨cur, hcur⟩ := RO.out.obj (g := g) rfl
        exact type_ne PO.out hcur (by decide) (Option.some.inj e))).trans PO.out, H.out.new,
      toks_kept (H.out.toks.kept HG.out (fun k hk e => by
        obtain ⟨cur, hcur⟩ := H.out.toks.obj hk
        obtain ⟨cur', hcur'⟩ := FT.out.2.2.2.2.obj e
        exact type_ne hcur hcur' (by decide) rfl)) (setAll_one W g _ _) (RO.out.obj (g := g) rfl).choose_spec (by decide), K1⟩
  refine ⟨rfl, ?_, ?_, ?_⟩
  · rw [kidN_set hm]
    exact ⟨tv, _, _, P1.below (below_drew (Below.refl _ _))⟩
  · exact below_drew (B1.trans (below_grown (setAll_one W g (id * 5) (Nv.cells ⟨v.id, v.kd, v.fr, v.tt, some ⟨g2, 0, none⟩, m.kids.length + 1, cap2⟩)) hg0 (Nat.le_trans hbase B1.size)))
  · refine (keeps_grown HG.out (fun k hk => ?_)).trans ((keeps_grown (setAll_one W g (id * 5) (Nv.cells ⟨v.id, v.kd, v.fr, v.tt, some ⟨g2, 0, none⟩, m.kids.length + 1, cap2⟩)) (fun k hk => ?_)).trans (keeps_below (below_drew (Below.refl _ _))))
    · obtain ⟨cur, hcur⟩ := FT.out.2.2.2.2.obj hk
      exact ⟨cur, _, hcur, by decide, by decide⟩
    · cases hk
      obtain ⟨cur, hcur⟩ := RO.out.obj (g := g) rfl
      exact ⟨cur, _, hcur, by decide, by decide⟩

/-- A node's end is set. -/
def clN (ns : List Nd) (id : Nat) (t : Int) : List Nd := ns.modify id (fun m => ⟨m.id, m.kd, m.fr, t, m.kids⟩)
theorem clN_set {ns : List Nd} {id : Nat} {m : Nd} (h : ns[id]? = some m) (t : Int) : clN ns id t = ns.set id ⟨m.id, m.kd, m.fr, t, m.kids⟩ := by
  unfold clN
  have hl := (List.getElem?_eq_some_iff.1 h).1
  apply List.ext_getElem?
  intro j
  rw [List.getElem?_modify, List.getElem?_set]
  by_cases e : id = j
  · subst e
    rw [if_pos rfl, if_pos hl, h]; simp
  · simp [e]
/-- Behind the writing of a node over its elder. -/
theorem close_end {w W : World} {base pb i en id g N cap : Nat} {ts : List Tk} {ns : List Nd} {tv : Value} {vs : List Nv} {v : Nv} {m : Nd} (H : PS w base pb ts i en tv (.slice (some ⟨g, 0, none⟩) N cap) vs ns) (hv : vs[id]? = some v) (hm : ns[id]? = some m) (hb : Below w.heap.size w W) (t : Int) :
    PSx ((setAll W g (id * 5) (Nv.cells ⟨v.id, v.kd, v.fr, t, v.kp, v.kn, v.kc⟩)).drew) base pb ts i en (clN ns id t) ∧ Below base w ((setAll W g (id * 5) (Nv.cells ⟨v.id, v.kd, v.fr, t, v.kp, v.kn, v.kc⟩)).drew) ∧ Keeps w ((setAll W g (id * 5) (Nv.cells ⟨v.id, v.kd, v.fr, t, v.kp, v.kn, v.kc⟩)).drew) := by
  have HW := H.below hb
  obtain ⟨a, b, c, d, -⟩ := H.nodes.fit id v m hv hm
  have K1 := HW.nodes.write hv hm (v' := ⟨v.id, v.kd, v.fr, t, v.kp, v.kn, v.kc⟩) (m' := ⟨m.id, m.kd, m.fr, t, m.kids⟩) ⟨a, b, c, rfl⟩ rfl rfl
  have hpb := H.cells.2.2.2.2.2.2.2
  have hg := H.nodes.row.lt (g := g) rfl
  have hbase : base ≤ w.heap.size := Nat.le_trans H.new (Nat.le_of_lt hpb)
  have P1 : PS (setAll W g (id * 5) (Nv.cells ⟨v.id, v.kd, v.fr, t, v.kp, v.kn, v.kc⟩)) base pb ts i en tv _ _ _ :=
    ⟨((setAll_one W g _ _).block pb (Array.getElem?_eq_some_iff.1 HW.obj).1 (fun e => by
        obtain ⟨cur, hcur⟩ := HW.nodes.row.obj (g := g) rfl
        exact type_ne HW.obj hcur (by decide) (Option.some.inj e))).trans HW.obj, H.new,
      toks_kept HW.toks (setAll_one W g _ _) (HW.nodes.row.obj (g := g) rfl).choose_spec (by decide), K1⟩
  refine ⟨?_, ?_, ?_⟩
  · rw [clN_set hm]
    exact ⟨tv, _, _, P1.below (below_drew (Below.refl _ _))⟩
  · exact below_drew ((hb.mono hbase).trans (below_grown (setAll_one W g _ _) hg.1 (Nat.le_trans hbase hb.size)))
  · refine (keeps_below hb).trans ((keeps_grown (setAll_one W g (id * 5) (Nv.cells ⟨v.id, v.kd, v.fr, t, v.kp, v.kn, v.kc⟩)) (fun k hk => ?_)).trans (keeps_below (below_drew (Below.refl _ _))))
    cases hk
    obtain ⟨cur, hcur⟩ := HW.nodes.row.obj (g := g) rfl
    exact ⟨cur, _, hcur, by decide, by decide⟩

set_option maxRecDepth 100000 in
set_option maxHeartbeats 2000000 in
theorem close_none {w : World} {base pb i en : Nat} {ts : List Tk} {ns : List Nd} (h : PSx w base pb ts i en ns) (id : Nat) (m : Nd) (hm : ns[id]? = some m) (hk : m.kids = []) (t : Nat) :
    Calls Tryz.prog 104 #[.pointer (some ⟨pb, 0, none⟩), .int .i64 id, .int .i64 t] w (StepPost (.returned (.tuple #[])) base pb ts i en (clN ns id t) w) := by
  obtain ⟨tv, nv, vs, h⟩ := h
  have hid := (List.getElem?_eq_some_iff.1 hm).1
  have hvl : id < vs.length := by rw [h.nodes.len]; exact hid
  obtain ⟨v, hv⟩ : ∃ v, vs[id]? = some v := ⟨_, List.getElem?_eq_getElem hvl⟩
  obtain ⟨g, cap, rfl, hg0, hg1, hcap⟩ := h.nodes.row.formS (by intro e; rw [e] at hvl; simp at hvl)
  have hat := h.nodes.row.at hv
  have n0 : w.cell? ⟨g, id * 5, none⟩ = some (.int .i64 v.id) := hat 0 _ rfl
  have n1 : w.cell? ⟨g, id * 5 + 1, none⟩ = some (.int .i64 v.kd) := hat 1 _ rfl
  have n2 : w.cell? ⟨g, id * 5 + 2, none⟩ = some (.int .i64 v.fr) := hat 2 _ rfl
  have n3 : w.cell? ⟨g, id * 5 + 3, none⟩ = some (.int .i64 v.tt) := hat 3 _ rfl
  have n4 : w.cell? ⟨g, id * 5 + 4, none⟩ = some (.slice v.kp v.kn v.kc) := hat 4 _ rfl
  obtain ⟨c0, c1, c2, c3, c4, c5, cf, hpb⟩ := h.cells
  have FT := Lib.hid (h.nodes.fit id v m hv hm)
  have hkn : v.kn = 0 := by
    obtain ⟨p, c, e⟩ := FT.out.2.2.2.2.form
    rw [hk] at e
    unfold Nv.kv at e
    injection e
  have H := Lib.hid h
  generalize hN : vs.length = N at *
  have HN := Lib.hid hN
  have hNi : (id : Int) < (N : Int) := by omega
  clear h hat hN
  obtain ⟨vid, vkd, vfr, vtt, vkp, vkn, vkc⟩ := v
  dsimp only at n0 n1 n2 n3 n4 hkn
  subst hkn
  go_enter Tryz.func104, Tryz.ntmps104
  go_wp2_with fail
  have BX : Hid (Below w.heap.size w (w.alloc (.cells #[.int .i64 vid, .int .i64 vkd, .int .i64 vfr, .int .i64 t, .slice vkp 0 vkc] 109))) := Lib.hid ((Below.refl _ _).alloc (Nat.le_refl _) _)
  have BO : Hid ((w.alloc (.cells #[.int .i64 vid, .int .i64 vkd, .int .i64 vfr, .int .i64 t, .slice vkp 0 vkc] 109)).heap[w.heap.size]? = some (.cells #[.int .i64 vid, .int .i64 vkd, .int .i64 vfr, .int .i64 t, .slice vkp 0 vkc] 109 (0, 0))) := Lib.hid (heap_alloc_new w _)
  generalize w.alloc (.cells #[.int .i64 vid, .int .i64 vkd, .int .i64 vfr, .int .i64 t, .slice vkp 0 vkc] 109) = W at BX BO ⊢
  have m0 := cell_later BX.out n0
  have m1 := cell_later BX.out n1
  have m2 := cell_later BX.out n2
  have m3 := cell_later BX.out n3
  have m4 := cell_later BX.out n4
  have p5 := cell_later BX.out c5
  have mf : ∀ j, W.frozen? ⟨g, j, none⟩ = false := (H.out.below BX.out).nodes.row.frozen
  have b0 := (obj_cells BO.out).1 0 _ rfl
  have b1 := (obj_cells BO.out).1 1 _ rfl
  have b2 := (obj_cells BO.out).1 2 _ rfl
  have b3 := (obj_cells BO.out).1 3 _ rfl
  have b4 := (obj_cells BO.out).1 4 _ rfl
  clear n0 n1 n2 n3 n4 c0 c1 c2 c3 c4 c5 cf
  go_region
  go_wp2_with fail
  go_end0
  obtain ⟨h1, h2, h3⟩ := close_end H.out hv hm BX.out t
  exact ⟨rfl, h1, h2, h3⟩

set_option maxRecDepth 100000 in
set_option maxHeartbeats 4000000 in
theorem close_some {w : World} {base pb i en : Nat} {ts : List Tk} {ns : List Nd} (h : PSx w base pb ts i en ns) (id : Nat) (m : Nd) (hm : ns[id]? = some m) (ks : List Int) (c : Nat) (hk : m.kids = ks ++ [(c : Int)]) (hkl : ks.length ≤ 4096) (mc : Nd) (hc : ns[c]? = some mc) (t : Nat) :
    Calls Tryz.prog 104 #[.pointer (some ⟨pb, 0, none⟩), .int .i64 id, .int .i64 t] w (StepPost (.returned (.tuple #[])) base pb ts i en (clN ns id (max (t : Int) (Nd.to mc))) w) := by
  obtain ⟨tv, nv, vs, h⟩ := h
  have hid := (List.getElem?_eq_some_iff.1 hm).1
  have hcd := (List.getElem?_eq_some_iff.1 hc).1
  have hvl : id < vs.length := by rw [h.nodes.len]; exact hid
  have hvc : c < vs.length := by rw [h.nodes.len]; exact hcd
  obtain ⟨v, hv⟩ : ∃ v, vs[id]? = some v := ⟨_, List.getElem?_eq_getElem hvl⟩
  obtain ⟨u, hu⟩ : ∃ u, vs[c]? = some u := ⟨_, List.getElem?_eq_getElem hvc⟩
  obtain ⟨g, cap, rfl, hg0, hg1, hcap⟩ := h.nodes.row.formS (by intro e; rw [e] at hvl; simp at hvl)
  have hat := h.nodes.row.at hv
  have n0 : w.cell? ⟨g, id * 5, none⟩ = some (.int .i64 v.id) := hat 0 _ rfl
  have n1 : w.cell? ⟨g, id * 5 + 1, none⟩ = some (.int .i64 v.kd) := hat 1 _ rfl
  have n2 : w.cell? ⟨g, id * 5 + 2, none⟩ = some (.int .i64 v.fr) := hat 2 _ rfl
  have n3 : w.cell? ⟨g, id * 5 + 3, none⟩ = some (.int .i64 v.tt) := hat 3 _ rfl
  have n4 : w.cell? ⟨g, id * 5 + 4, none⟩ = some (.slice v.kp v.kn v.kc) := hat 4 _ rfl
  have k3 : w.cell? ⟨g, c * 5 + 3, none⟩ = some (.int .i64 (Nd.to mc)) := by
    have := h.nodes.row.at hu 3 _ rfl
    rw [(h.nodes.fit c u mc hu hc).2.2.2.1] at this
    exact this
  obtain ⟨c0, c1, c2, c3, c4, c5, cf, hpb⟩ := h.cells
  have FT := Lib.hid (h.nodes.fit id v m hv hm)
  obtain ⟨kb, kcap, hkv, hkb0, hkb1, hkb2⟩ := FT.out.2.2.2.2.formS (by rw [hk]; simp)
  have kc0 : w.cell? ⟨kb, ks.length, none⟩ = some (.int .i64 c) := by
    have e5 := FT.out.2.2.2.2
    rw [hkv] at e5
    have := e5.at (i := ks.length) (x := (c : Int)) (by rw [hk]; simp) 0 _ rfl
    simpa [lyI] using this
  have hlen : m.kids.length = ks.length + 1 := by rw [hk]; simp
  rw [hlen] at hkv
  have H := Lib.hid h
  generalize hN : vs.length = N at *
  have HN := Lib.hid hN
  have hNi : (id : Int) < (N : Int) := by omega
  have hNc : (c : Int) < (N : Int) := by omega
  clear h hat hN
  obtain ⟨vid, vkd, vfr, vtt, vkp, vkn, vkc⟩ := v
  unfold Nv.kv at hkv
  dsimp only at n0 n1 n2 n3 n4 hkv
  cases hkv
  generalize ks.length = K at *
  have wk : IntKind.i64.wrap (((K + 1 : Nat) : Int) - 1) = (K : Int) := by rw [IntWalk.i64_in _ (by omega)]; omega
  have wk2 : IntKind.i64.wrap ((K : Int) + 1 - 1) = (K : Int) := by rw [IntWalk.i64_in _ (by omega)]; omega
  have kk0 : (K : Int) < ((K + 1 : Nat) : Int) := by omega
  have kk1 : (K : Int) < (K : Int) + 1 := by omega
  have kk2 : (0 : Int) ≤ (K : Int) := by omega
  by_cases hmx : Nd.to mc ≤ (t : Int)
  · rw [show max (t : Int) (Nd.to mc) = (t : Int) by omega]
    go_enter Tryz.func104, Tryz.ntmps104
    go_wp2_with fail
    have BX : Hid (Below w.heap.size w (w.alloc (.cells #[.int .i64 vid, .int .i64 vkd, .int .i64 vfr, .int .i64 t, .slice (some ⟨kb, 0, none⟩) (K + 1) kcap] 109))) := Lib.hid ((Below.refl _ _).alloc (Nat.le_refl _) _)
    have BO : Hid ((w.alloc (.cells #[.int .i64 vid, .int .i64 vkd, .int .i64 vfr, .int .i64 t, .slice (some ⟨kb, 0, none⟩) (K + 1) kcap] 109)).heap[w.heap.size]? = some (.cells #[.int .i64 vid, .int .i64 vkd, .int .i64 vfr, .int .i64 t, .slice (some ⟨kb, 0, none⟩) (K + 1) kcap] 109 (0, 0))) := Lib.hid (heap_alloc_new w _)
    generalize w.alloc (.cells #[.int .i64 vid, .int .i64 vkd, .int .i64 vfr, .int .i64 t, .slice (some ⟨kb, 0, none⟩) (K + 1) kcap] 109) = W at BX BO ⊢
    have p5 := cell_later BX.out c5
    have q0 := cell_later BX.out kc0
    have q3 := cell_later BX.out k3
    have b3 := (obj_cells BO.out).1 3 _ rfl
    have b4 := (obj_cells BO.out).1 4 _ rfl
    have bf := (obj_cells BO.out).2.1
    go_region
    clear p5 q0 q3 b3 b4 bf
    have BX2 : Hid (Below w.heap.size w (W.setCell ⟨w.heap.size, 3, none⟩ (.int .i64 t)).drew) := Lib.hid (below_drew (below_set BX.out (Nat.le_refl _) _))
    have BO2 : Hid ((W.setCell ⟨w.heap.size, 3, none⟩ (.int .i64 t)).drew.heap[w.heap.size]? = some (.cells #[.int .i64 vid, .int .i64 vkd, .int .i64 vfr, .int .i64 t, .slice (some ⟨kb, 0, none⟩) (K + 1) kcap] 109 (0, 0))) := Lib.hid (by
      show (W.setCell ⟨w.heap.size, 3, none⟩ (.int .i64 t)).heap[w.heap.size]? = _
      rw [heap_setCell_at BO.out]; rfl)
    go_wp2_with fail
    generalize (W.setCell ⟨w.heap.size, 3, none⟩ (.int .i64 t)).drew = X at BX2 BO2 ⊢
    clear BX BO
    have m0 := cell_later BX2.out n0
    have m1 := cell_later BX2.out n1
    have m2 := cell_later BX2.out n2
    have m3 := cell_later BX2.out n3
    have m4 := cell_later BX2.out n4
    have p5 := cell_later BX2.out c5
    have mf : ∀ j, X.frozen? ⟨g, j, none⟩ = false := (H.out.below BX2.out).nodes.row.frozen
    have b0 := (obj_cells BO2.out).1 0 _ rfl
    have b1 := (obj_cells BO2.out).1 1 _ rfl
    have b2 := (obj_cells BO2.out).1 2 _ rfl
    have b3 := (obj_cells BO2.out).1 3 _ rfl
    have b4 := (obj_cells BO2.out).1 4 _ rfl
    clear n0 n1 n2 n3 n4 c0 c1 c2 c3 c4 c5 cf
    go_region
    go_wp2_with fail
    go_end0
    obtain ⟨h1, h2, h3⟩ := close_end H.out hv hm BX2.out (t)
    exact ⟨rfl, h1, h2, h3⟩
  · rw [show max (t : Int) (Nd.to mc) = Nd.to mc by omega]
    go_enter Tryz.func104, Tryz.ntmps104
    go_wp2_with fail
    have BX : Hid (Below w.heap.size w (w.alloc (.cells #[.int .i64 vid, .int .i64 vkd, .int .i64 vfr, .int .i64 t, .slice (some ⟨kb, 0, none⟩) (K + 1) kcap] 109))) := Lib.hid ((Below.refl _ _).alloc (Nat.le_refl _) _)
    have BO : Hid ((w.alloc (.cells #[.int .i64 vid, .int .i64 vkd, .int .i64 vfr, .int .i64 t, .slice (some ⟨kb, 0, none⟩) (K + 1) kcap] 109)).heap[w.heap.size]? = some (.cells #[.int .i64 vid, .int .i64 vkd, .int .i64 vfr, .int .i64 t, .slice (some ⟨kb, 0, none⟩) (K + 1) kcap] 109 (0, 0))) := Lib.hid (heap_alloc_new w _)
    generalize w.alloc (.cells #[.int .i64 vid, .int .i64 vkd, .int .i64 vfr, .int .i64 t, .slice (some ⟨kb, 0, none⟩) (K + 1) kcap] 109) = W at BX BO ⊢
    have p5 := cell_later BX.out c5
    have q0 := cell_later BX.out kc0
    have q3 := cell_later BX.out k3
    have b3 := (obj_cells BO.out).1 3 _ rfl
    have b4 := (obj_cells BO.out).1 4 _ rfl
    have bf := (obj_cells BO.out).2.1
    go_region
    clear p5 q0 q3 b3 b4 bf
    have BX2 : Hid (Below w.heap.size w (W.setCell ⟨w.heap.size, 3, none⟩ (.int .i64 (Nd.to mc))).drew) := Lib.hid (below_drew (below_set BX.out (Nat.le_refl _) _))
    have BO2 : Hid ((W.setCell ⟨w.heap.size, 3, none⟩ (.int .i64 (Nd.to mc))).drew.heap[w.heap.size]? = some (.cells #[.int .i64 vid, .int .i64 vkd, .int .i64 vfr, .int .i64 (Nd.to mc), .slice (some ⟨kb, 0, none⟩) (K + 1) kcap] 109 (0, 0))) := Lib.hid (by
      show (W.setCell ⟨w.heap.size, 3, none⟩ (.int .i64 (Nd.to mc))).heap[w.heap.size]? = _
      rw [heap_setCell_at BO.out]; rfl)
    go_wp2_with fail
    generalize (W.setCell ⟨w.heap.size, 3, none⟩ (.int .i64 (Nd.to mc))).drew = X at BX2 BO2 ⊢
    clear BX BO
    have m0 := cell_later BX2.out n0
    have m1 := cell_later BX2.out n1
    have m2 := cell_later BX2.out n2
    have m3 := cell_later BX2.out n3
    have m4 := cell_later BX2.out n4
    have p5 := cell_later BX2.out c5
    have mf : ∀ j, X.frozen? ⟨g, j, none⟩ = false := (H.out.below BX2.out).nodes.row.frozen
    have b0 := (obj_cells BO2.out).1 0 _ rfl
    have b1 := (obj_cells BO2.out).1 1 _ rfl
    have b2 := (obj_cells BO2.out).1 2 _ rfl
    have b3 := (obj_cells BO2.out).1 3 _ rfl
    have b4 := (obj_cells BO2.out).1 4 _ rfl
    clear n0 n1 n2 n3 n4 c0 c1 c2 c3 c4 c5 cf
    go_region
    go_wp2_with fail
    go_end0
    obtain ⟨h1, h2, h3⟩ := close_end H.out hv hm BX2.out ((Nd.to mc))
    exact ⟨rfl, h1, h2, h3⟩

end Go.Proofs.YtjmfjlffcopnnaaGreatDoor
