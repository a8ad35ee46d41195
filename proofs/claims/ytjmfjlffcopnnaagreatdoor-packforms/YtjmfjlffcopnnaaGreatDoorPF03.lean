/-
  FoM, FoN, PrM, TkM, in one text. Conditions: as each theorem's premises say.
-/
import Derived.WalkKit
namespace Go.Proofs.YtjmfjlffcopnnaaGreatDoor

/-- A node as it lies in a tree: its id, kind, span, and its children's ids. -/
structure Nd where
  id : Int
  kd : Int
  fr : Int
  to : Int
  kids : List Int

/-- A forest: its first tree's kind, span, children; the trees behind it. -/
inductive Fo where
  | nil : Fo
  | cons (kd fr to : Nat) (kids rest : Fo) : Fo

def Fo.size : Fo → Nat
  | .nil => 0
  | .cons _ _ _ k r => 1 + k.size + r.size
def Fo.app : Fo → Fo → Fo
  | .nil, g => g
  | .cons kd fr to k r, g => .cons kd fr to k (r.app g)
/-- Where the last tree ends; d: there is none. -/
def Fo.last (d : Nat) : Fo → Nat
  | .nil => d
  | .cons _ _ to _ r => r.last to
/-- The ids of the trees' own nodes, numbered from b on in preorder, by w. -/
def Fo.ids (w : Nat → Int) : Fo → Nat → List Int
  | .nil, _ => []
  | .cons _ _ _ k r, b => w b :: r.ids w (b + 1 + k.size)
/-- All nodes, in preorder. -/
def Fo.flat (w : Nat → Int) : Fo → Nat → List Nd
  | .nil, _ => []
  | .cons kd fr to k r, b => ⟨w b, kd, fr, to, k.ids w (b + 1)⟩ :: (k.flat w (b + 1) ++ r.flat w (b + 1 + k.size))
/-- The trees stand one behind the other within lo and hi, and so do all below them; kinds that are some, none a root; leaves have no children. -/
def Fo.ok : Nat → Nat → Fo → Prop
  | lo, hi, .nil => lo ≤ hi
  | lo, hi, .cons kd fr to k r => lo ≤ fr ∧ fr ≤ to ∧ 1 ≤ kd ∧ kd ≤ 7 ∧ (kd = 4 ∨ kd = 5 ∨ kd = 6 → k = .nil) ∧ Fo.ok fr to k ∧ Fo.ok to hi r

theorem Fo.ok_le : ∀ {f : Fo} {lo hi : Nat}, f.ok lo hi → lo ≤ hi
  | .nil, _, _, h => h
  | .cons _ _ _ _ r, _, _, h => by
    obtain ⟨h1, h2, _, _, _, _, h7⟩ := h
    have := Fo.ok_le (f := r) h7
    omega
theorem Fo.ok_lo : ∀ {f : Fo} {lo lo' hi : Nat}, f.ok lo hi → lo' ≤ lo → f.ok lo' hi
  | .nil, _, _, _, h, h' => Nat.le_trans h' h
  | .cons _ _ _ _ _, _, _, _, h, h' => ⟨Nat.le_trans h' h.1, h.2⟩
theorem Fo.ok_hi : ∀ {f : Fo} {lo hi hi' : Nat}, f.ok lo hi → hi ≤ hi' → f.ok lo hi'
  | .nil, _, _, _, h, h' => Nat.le_trans h h'
  | .cons _ _ _ _ r, _, _, _, h, h' => by
    obtain ⟨h1, h2, h3, h4, h5, h6, h7⟩ := h
    exact ⟨h1, h2, h3, h4, h5, h6, Fo.ok_hi (f := r) h7 h'⟩
theorem Fo.ok_last : ∀ {f : Fo} {lo hi : Nat}, f.ok lo hi → f.ok lo (f.last lo) ∧ f.last lo ≤ hi
  | .nil, _, _, h => ⟨Nat.le_refl _, h⟩
  | .cons _ _ _ _ r, _, _, h => by
    obtain ⟨h1, h2, h3, h4, h5, h6, h7⟩ := h
    have := Fo.ok_last (f := r) h7
    exact ⟨⟨h1, h2, h3, h4, h5, h6, this.1⟩, this.2⟩
theorem Fo.ok_app : ∀ {f g : Fo} {lo mid hi : Nat}, f.ok lo mid → g.ok mid hi → (f.app g).ok lo hi
  | .nil, _, _, _, _, h, h' => Fo.ok_lo h' h
  | .cons _ _ _ _ r, _, _, _, _, h, h' => by
    obtain ⟨h1, h2, h3, h4, h5, h6, h7⟩ := h
    exact ⟨h1, h2, h3, h4, h5, h6, Fo.ok_app (f := r) h7 h'⟩
theorem Fo.size_app : ∀ (f g : Fo), (f.app g).size = f.size + g.size
  | .nil, g => by simp [Fo.app, Fo.size]
  | .cons _ _ _ _ r, g => by
    simp only [Fo.app, Fo.size, Fo.size_app r g]; omega
theorem Fo.app_nil : ∀ (f : Fo), f.app .nil = f
  | .nil => rfl
  | .cons _ _ _ _ r => by simp only [Fo.app, Fo.app_nil r]
theorem Fo.app_app : ∀ (f g h : Fo), (f.app g).app h = f.app (g.app h)
  | .nil, _, _ => rfl
  | .cons _ _ _ _ r, g, h => by simp only [Fo.app, Fo.app_app r g h]
theorem Fo.ids_app (w : Nat → Int) : ∀ (f g : Fo) (b : Nat), (f.app g).ids w b = f.ids w b ++ g.ids w (b + f.size)
  | .nil, g, b => by simp [Fo.app, Fo.ids, Fo.size]
  | .cons _ _ _ k r, g, b => by
    simp only [Fo.app, Fo.ids, Fo.ids_app w r g, Fo.size, List.cons_append]
    congr 3; omega
theorem Fo.flat_app (w : Nat → Int) : ∀ (f g : Fo) (b : Nat), (f.app g).flat w b = f.flat w b ++ g.flat w (b + f.size)
  | .nil, g, b => by simp [Fo.app, Fo.flat, Fo.size]
  | .cons _ _ _ k r, g, b => by
    simp only [Fo.app, Fo.flat, Fo.flat_app w r g, Fo.size, List.cons_append, List.append_assoc]
    congr 4; omega
theorem Fo.flat_len (w : Nat → Int) : ∀ (f : Fo) (b : Nat), (f.flat w b).length = f.size
  | .nil, _ => rfl
  | .cons _ _ _ k r, b => by
    simp only [Fo.flat, List.length_cons, List.length_append, Fo.flat_len w k, Fo.flat_len w r, Fo.size]; omega

/-! When a tree may be -/

def getN (ns : List Nd) (id : Int) : Option Nd := ns.find? (fun x => x.id == id)
def leafK (k : Int) : Bool := k == 4 || k == 5 || k == 6
def nodeOk (root next size : Int) (x : Nd) : Bool :=
  decide (0 ≤ x.id) && decide (x.id < next) && decide (0 ≤ x.kd) && decide (x.kd ≤ 7) && decide (0 ≤ x.fr) && decide (x.fr ≤ x.to) && decide (x.to ≤ size)
    && (!leafK x.kd || x.kids.isEmpty) && (!(x.kd == 0) || (x.id == root && x.fr == 0 && x.to == size))
def kidsOk (ns : List Nd) (to : Int) : Int → List Int → Bool
  | _, [] => true
  | lo, c :: cs => match getN ns c with
    | none => false
    | some y => decide (lo ≤ y.fr) && decide (y.to ≤ to) && !(y.kd == 0) && kidsOk ns to y.to cs
def risesB : List Nd → Bool
  | [] => true
  | [_] => true
  | x :: y :: r => decide (x.id < y.id) && risesB (y :: r)
def allKids (ns : List Nd) : List Int := ns.flatMap Nd.kids
def reachN (ns : List Nd) : Nat → Int → Nat
  | 0, _ => 0
  | f + 1, id => match getN ns id with
    | none => 0
    | some x => 1 + (x.kids.map (reachN ns f)).sum
def mayB (ns : List Nd) (root next size : Int) : Bool :=
  decide (1 ≤ ns.length) && decide (ns.length ≤ 2048) && decide (0 ≤ next) && decide (next ≤ 16777216) && decide (0 ≤ size) && decide (size ≤ 4096)
    && ns.all (nodeOk root next size) && risesB ns && ns.all (fun x => kidsOk ns x.to x.fr x.kids)
    && (ns.countP (fun x => x.kd == 0) == 1) && ns.all (fun x => x.kd == 0 || (allKids ns).count x.id == 1)
    && (reachN ns (ns.length + 1) root == ns.length)

theorem rises_cons {x : Nd} : ∀ {r : List Nd}, risesB (x :: r) = true ↔ (∀ y ∈ r, x.id < y.id) ∧ risesB r = true
  | [] => by simp [risesB]
  | y :: r => by
    have ih := rises_cons (x := y) (r := r)
    simp only [risesB, Bool.and_eq_true, decide_eq_true_eq]
    constructor
    · rintro ⟨h1, h2⟩
      refine ⟨?_, h2⟩
      intro z hz
      rcases List.mem_cons.1 hz with rfl | hz
      · exact h1
      · have := (ih.1 h2).1 z hz
        omega
    · rintro ⟨h1, h2⟩
      exact ⟨h1 y (List.mem_cons_self ..), h2⟩
theorem rises_nodup : ∀ {ns : List Nd}, risesB ns = true → (ns.map Nd.id).Nodup
  | [], _ => List.nodup_nil
  | x :: r, h => by
    obtain ⟨h1, h2⟩ := rises_cons.1 h
    rw [List.map_cons, List.nodup_cons]
    refine ⟨?_, rises_nodup h2⟩
    intro hm
    obtain ⟨y, hy, e⟩ := List.mem_map.1 hm
    have := h1 y hy
    omega
theorem get_mem : ∀ {ns : List Nd} {x : Nd}, (ns.map Nd.id).Nodup → x ∈ ns → getN ns x.id = some x
  | y :: r, x, hn, hx => by
    rw [List.map_cons, List.nodup_cons] at hn
    unfold getN
    rw [List.find?_cons]
    rcases List.mem_cons.1 hx with rfl | hx
    · simp
    · have ne : y.id ≠ x.id := fun e => hn.1 (e ▸ List.mem_map.2 ⟨x, hx, rfl⟩)
      have : (y.id == x.id) = false := beq_eq_false_iff_ne.2 ne
      rw [this]
      exact get_mem hn.2 hx
theorem get_some {ns : List Nd} {i : Int} {x : Nd} (h : getN ns i = some x) : x ∈ ns ∧ x.id = i := by
  unfold getN at h
  exact ⟨List.mem_of_find?_eq_some h, by have := List.find?_some h; exact eq_of_beq this⟩

/-- A token: its kind, its span. -/
structure Tk where
  k : Nat
  fr : Nat
  to : Nat

/-- Tokens one behind the other from lo on, up to e. -/
def Srt (e : Nat) : Nat → List Tk → Prop
  | lo, [] => lo ≤ e
  | lo, t :: r => lo ≤ t.fr ∧ t.fr ≤ t.to ∧ Srt e t.to r
theorem Srt.le {e : Nat} : ∀ {ts : List Tk} {lo : Nat}, Srt e lo ts → lo ≤ e
  | [], _, h => h
  | t :: r, _, h => by
    have := Srt.le (ts := r) h.2.2
    obtain ⟨h1, h2, _⟩ := h
    omega
theorem Srt.lo {e : Nat} : ∀ {ts : List Tk} {lo lo' : Nat}, Srt e lo ts → lo' ≤ lo → Srt e lo' ts
  | [], _, _, h, h' => Nat.le_trans h' h
  | _ :: _, _, _, h, h' => ⟨Nat.le_trans h' h.1, h.2⟩

def starts (t : Tk) (d : Nat) : Bool := t.k == 6 || t.k == 7 || t.k == 8 || ((t.k == 0 || t.k == 2) && decide (d ≤ 12))
/-- A lack at a place. -/
def lackF (p : Nat) (r : Fo) : Fo := .cons 7 p p .nil r

/-- The place of the next token, or the end. -/
def nextFr (e : Nat) : List Tk → Nat
  | [] => e
  | t :: _ => t.fr
/-- A colon, if one comes next: the lack, where the pair ends so far, the rest. -/
def colonF (to : Nat) : List Tk → Bool × Nat × List Tk
  | [] => (false, to, [])
  | t :: r => if t.k == 4 then (true, t.to, r) else (false, to, t :: r)

mutual
/-- A value that begins with the next token. -/
def valF : Nat → Nat → Nat → List Tk → Fo × List Tk
  | 0, e, _, ts => match ts with
    | [] => (lackF e .nil, [])
    | t :: r => (.cons 7 t.fr t.to .nil .nil, r)
  | n + 1, e, d, ts => match ts with
    | [] => (lackF e .nil, [])
    | t :: r =>
      if t.k == 6 then (.cons 4 t.fr t.to .nil .nil, r)
      else if t.k == 7 then (.cons 5 t.fr t.to .nil .nil, r)
      else if t.k == 8 then (.cons 6 t.fr t.to .nil .nil, r)
      else if t.k == 0 then
        let x := lstF n e 1 d 0 r
        (.cons 1 t.fr (max x.2.1 (x.1.last 0)) x.1 .nil, x.2.2)
      else
        let x := lstF n e 3 d 0 r
        (.cons 2 t.fr (max x.2.1 (x.1.last 0)) x.1 .nil, x.2.2)
termination_by structural n => n
/-- What stands within brackets from here on: the children, where it ends, the rest. -/
def lstF : Nat → Nat → Nat → Nat → Nat → List Tk → Fo × Nat × List Tk
  | 0, e, _, _, _, _ => (lackF e .nil, e, [])
  | n + 1, e, c, d, st, ts => match ts with
    | [] => (lackF e .nil, e, [])
    | t :: r =>
      if t.k == c then (if st == 2 then lackF t.fr .nil else .nil, t.to, r)
      else if t.k == 5 && st == 1 then lstF n e c d 2 r
      else if starts t (d + 1) then
        let x := elmF n e c d (t :: r)
        let y := lstF n e c d 1 x.2
        (if st == 1 then lackF t.fr (x.1.app y.1) else x.1.app y.1, y.2)
      else
        let y := lstF n e c d st r
        (.cons 7 t.fr t.to .nil y.1, y.2)
termination_by structural n => n
/-- An element. -/
def elmF : Nat → Nat → Nat → Nat → List Tk → Fo × List Tk
  | 0, e, _, _, ts => match ts with
    | [] => (lackF e .nil, [])
    | t :: r => (.cons 7 t.fr t.to .nil .nil, r)
  | n + 1, e, c, d, ts => match ts with
    | [] => (lackF e .nil, [])
    | t :: r =>
      if c == 3 then valF n e (d + 1) (t :: r)
      else if t.k == 6 then prF n e d (t :: r)
      else
        let x := valF n e (d + 1) (t :: r)
        (.cons 7 t.fr (max t.to (x.1.last 0)) x.1 .nil, x.2)
termination_by structural n => n
/-- A pair. -/
def prF : Nat → Nat → Nat → List Tk → Fo × List Tk
  | 0, e, _, ts => match ts with
    | [] => (lackF e .nil, [])
    | t :: r => (.cons 7 t.fr t.to .nil .nil, r)
  | n + 1, e, d, ts => match ts with
    | [] => (lackF e .nil, [])
    | t :: r =>
      let x := valF n e (d + 1) (t :: r)
      let c := colonF t.to x.2
      let y := match c.2.2 with
        | [] => (lackF e .nil, [])
        | u :: q => if starts u (d + 1) then valF n e (d + 1) (u :: q) else (lackF u.fr .nil, u :: q)
      let ks := x.1.app (if c.1 then y.1 else lackF (nextFr e x.2) y.1)
      (.cons 3 t.fr (max c.2.1 (ks.last 0)) ks .nil, y.2)
termination_by structural n => n
end

/-- At the root. -/
def topF : Nat → Nat → Bool → List Tk → Fo
  | 0, e, one, _ => if one then .nil else lackF e .nil
  | _ + 1, e, one, [] => if one then .nil else lackF e .nil
  | n + 1, e, one, t :: r =>
    if !starts t 1 then .cons 7 t.fr t.to .nil (topF n e one r)
    else
      let x := valF (4 * (r.length + 1)) e 1 (t :: r)
      if one then .cons 7 t.fr (max t.to (x.1.last 0)) x.1 (topF n e one x.2)
      else x.1.app (topF n e true x.2)

theorem last_le : ∀ {f : Fo} {lo hi d : Nat}, f.ok lo hi → d ≤ hi → f.last d ≤ hi
  | .nil, _, _, _, _, h => h
  | .cons _ _ _ _ r, _, _, _, h, _ => last_le (f := r) h.2.2.2.2.2.2 (Fo.ok_le h.2.2.2.2.2.2)
theorem ok_max {f : Fo} {lo hi to : Nat} (h : f.ok lo hi) (h1 : lo ≤ to) : f.ok lo (max to (f.last 0)) := by
  cases f with
  | nil => exact Nat.le_trans h1 (Nat.le_max_left ..)
  | cons kd fr t k r =>
    have := (Fo.ok_last h).1
    exact Fo.ok_hi this (Nat.le_max_right ..)
theorem lack_ok {lo p hi : Nat} {r : Fo} (h1 : lo ≤ p) (h2 : r.ok p hi) : (lackF p r).ok lo hi :=
  ⟨h1, Nat.le_refl _, by decide, by decide, fun h => by omega, Nat.le_refl _, h2⟩
theorem nextFr_le {e lo : Nat} : ∀ {ts : List Tk}, Srt e lo ts → lo ≤ nextFr e ts ∧ Srt e (nextFr e ts) ts
  | [], h => ⟨h, Nat.le_refl _⟩
  | _ :: _, h => ⟨h.1, Nat.le_refl _, h.2⟩
theorem lack_size (p : Nat) (r : Fo) : (lackF p r).size = r.size + 1 := by simp only [lackF, Fo.size]; omega

def ValP (n : Nat) : Prop := ∀ (e d lo : Nat) (t : Tk) (r : List Tk), Srt e lo (t :: r) →
  (∃ hi, (valF n e d (t :: r)).1.ok lo hi ∧ Srt e hi (valF n e d (t :: r)).2 ∧ t.to ≤ hi) ∧ (valF n e d (t :: r)).1.size + 6 * (valF n e d (t :: r)).2.length + 4 ≤ 6 * (r.length + 1)
def LstP (n : Nat) : Prop := ∀ (e c d st lo : Nat) (ts : List Tk), Srt e lo ts →
  (lstF n e c d st ts).1.ok lo (lstF n e c d st ts).2.1 ∧ Srt e (lstF n e c d st ts).2.1 (lstF n e c d st ts).2.2 ∧ (lstF n e c d st ts).1.size + 6 * (lstF n e c d st ts).2.2.length ≤ 6 * ts.length + 1
def ElmP (n : Nat) : Prop := ∀ (e c d lo : Nat) (t : Tk) (r : List Tk), Srt e lo (t :: r) →
  (∃ hi, (elmF n e c d (t :: r)).1.ok lo hi ∧ Srt e hi (elmF n e c d (t :: r)).2) ∧ (elmF n e c d (t :: r)).1.size + 6 * (elmF n e c d (t :: r)).2.length + 1 ≤ 6 * (r.length + 1)
def PrP (n : Nat) : Prop := ∀ (e d lo : Nat) (t : Tk) (r : List Tk), Srt e lo (t :: r) →
  (∃ hi, (prF n e d (t :: r)).1.ok lo hi ∧ Srt e hi (prF n e d (t :: r)).2) ∧ (prF n e d (t :: r)).1.size + 6 * (prF n e d (t :: r)).2.length + 1 ≤ 6 * (r.length + 1)

theorem one_ok {kd lo fr to : Nat} (h : lo ≤ fr) (h2 : fr ≤ to) (h3 : 1 ≤ kd) (h4 : kd ≤ 7) : (Fo.cons kd fr to .nil .nil).ok lo to :=
  ⟨h, h2, h3, h4, fun _ => rfl, h2, Nat.le_refl _⟩

theorem val_step {n : Nat} (hl : LstP n) : ValP (n + 1) := by
  intro e d lo t r h
  obtain ⟨h1, h2, h3⟩ := h
  have one : ∀ kd, 1 ≤ kd → kd ≤ 7 → (∃ hi, (Fo.cons kd t.fr t.to .nil .nil).ok lo hi ∧ Srt e hi r ∧ t.to ≤ hi) ∧ (Fo.cons kd t.fr t.to .nil .nil).size + 6 * r.length + 4 ≤ 6 * (r.length + 1) :=
    fun kd a b => ⟨⟨t.to, one_ok h1 h2 a b, h3, Nat.le_refl _⟩, by simp only [Fo.size]; omega⟩
  have many : ∀ kd c, 1 ≤ kd → kd ≤ 3 → (∃ hi, (Fo.cons kd t.fr (max (lstF n e c d 0 r).2.1 ((lstF n e c d 0 r).1.last 0)) (lstF n e c d 0 r).1 .nil).ok lo hi ∧ Srt e hi (lstF n e c d 0 r).2.2 ∧ t.to ≤ hi) ∧ (Fo.cons kd t.fr (max (lstF n e c d 0 r).2.1 ((lstF n e c d 0 r).1.last 0)) (lstF n e c d 0 r).1 .nil).size + 6 * (lstF n e c d 0 r).2.2.length + 4 ≤ 6 * (r.length + 1) := by
    intro kd c a b
    obtain ⟨g1, g2, g3⟩ := hl e c d 0 t.to r h3
    have hle := Fo.ok_le g1
    have hm : max (lstF n e c d 0 r).2.1 ((lstF n e c d 0 r).1.last 0) = (lstF n e c d 0 r).2.1 := Nat.max_eq_left (last_le g1 (by omega))
    rw [hm]
    refine ⟨⟨(lstF n e c d 0 r).2.1, ⟨h1, by omega, a, by omega, fun h => by omega, Fo.ok_lo g1 h2, Nat.le_refl _⟩, g2, hle⟩, ?_⟩
    simp only [Fo.size]; omega
  unfold valF
  dsimp only
  split
  · exact one 4 (by omega) (by omega)
  split
  · exact one 5 (by omega) (by omega)
  split
  · exact one 6 (by omega) (by omega)
  split
  · exact many 1 1 (by omega) (by omega)
  · exact many 2 3 (by omega) (by omega)
theorem lst_step {n : Nat} (he : ElmP n) (hl : LstP n) : LstP (n + 1) := by
  intro e c d st lo ts h
  match ts, h with
  | [], h =>
    unfold lstF
    exact ⟨lack_ok h (Nat.le_refl _), Nat.le_refl _, by rw [lack_size]; simp only [Fo.size, List.length_nil]; omega⟩
  | t :: r, h =>
    obtain ⟨h1, h2, h3⟩ := h
    unfold lstF
    dsimp only
    split
    · refine ⟨?_, h3, ?_⟩
      · dsimp only
        split
        · exact lack_ok h1 h2
        · exact Nat.le_trans h1 h2
      · dsimp only
        split
        · rw [lack_size]; simp only [Fo.size, List.length_cons]; omega
        · simp only [Fo.size, List.length_cons]; omega
    split
    · obtain ⟨g1, g2, g3⟩ := hl e c d 2 t.to r h3
      exact ⟨Fo.ok_lo g1 (by omega), g2, by simp only [List.length_cons]; omega⟩
    split
    · obtain ⟨⟨hi, a1, a2⟩, a3⟩ := he e c d t.fr t r ⟨Nat.le_refl _, h2, h3⟩
      obtain ⟨g1, g2, g3⟩ := hl e c d 1 hi (elmF n e c d (t :: r)).2 a2
      have hok := Fo.ok_app a1 g1
      dsimp only
      refine ⟨?_, g2, ?_⟩
      · split
        · exact lack_ok h1 hok
        · exact Fo.ok_lo hok h1
      · split
        · rw [lack_size, Fo.size_app]; simp only [List.length_cons]; omega
        · rw [Fo.size_app]; simp only [List.length_cons]; omega
    · obtain ⟨g1, g2, g3⟩ := hl e c d st t.to r h3
      dsimp only
      exact ⟨⟨h1, h2, by decide, by decide, fun _ => rfl, h2, g1⟩, g2, by simp only [Fo.size, List.length_cons]; omega⟩
theorem elm_step {n : Nat} (hv : ValP n) (hp : PrP n) : ElmP (n + 1) := by
  intro e c d lo t r h
  unfold elmF
  dsimp only
  split
  · obtain ⟨⟨hi, g1, g2, _⟩, g3⟩ := hv e (d + 1) lo t r h
    exact ⟨⟨hi, g1, g2⟩, by omega⟩
  split
  · exact hp e d lo t r h
  · obtain ⟨h1, h2, h3⟩ := h
    obtain ⟨⟨hi, a1, a2, a4⟩, a3⟩ := hv e (d + 1) t.fr t r ⟨Nat.le_refl _, h2, h3⟩
    dsimp only
    have hl := last_le a1 (d := 0) (by omega)
    have hm := ok_max (to := t.to) a1 h2
    refine ⟨⟨max t.to ((valF n e (d + 1) (t :: r)).1.last 0), ⟨h1, Fo.ok_le hm, by decide, by decide, fun h => by omega, hm, Nat.le_refl _⟩, Srt.lo a2 (Nat.max_le.2 ⟨a4, hl⟩)⟩, by simp only [Fo.size]; omega⟩

/-- What stands behind a pair's colon. -/
def pvF (n e d : Nat) : List Tk → Fo × List Tk
  | [] => (lackF e .nil, [])
  | u :: q => if starts u (d + 1) then valF n e (d + 1) (u :: q) else (lackF u.fr .nil, u :: q)
theorem pv_ok {n : Nat} (hv : ValP n) (e d lo : Nat) : ∀ (ts : List Tk), Srt e lo ts →
    (∃ hi, (pvF n e d ts).1.ok lo hi ∧ Srt e hi (pvF n e d ts).2) ∧ (pvF n e d ts).1.size + 6 * (pvF n e d ts).2.length ≤ 6 * ts.length + 1
  | [], h => ⟨⟨e, lack_ok h (Nat.le_refl _), Nat.le_refl _⟩, by unfold pvF; rw [lack_size]; simp [Fo.size]⟩
  | u :: q, h => by
    rw [show pvF n e d (u :: q) = if starts u (d + 1) then valF n e (d + 1) (u :: q) else (lackF u.fr .nil, u :: q) from rfl]
    split
    · obtain ⟨⟨hi, g1, g2, _⟩, g3⟩ := hv e (d + 1) lo u q h
      exact ⟨⟨hi, g1, g2⟩, by simp only [List.length_cons]; omega⟩
    · exact ⟨⟨u.fr, lack_ok h.1 (Nat.le_refl _), Nat.le_refl _, h.2⟩, by dsimp only; rw [lack_size]; simp only [Fo.size]; omega⟩
theorem pr_eq (n e d : Nat) (t : Tk) (r : List Tk) : prF (n + 1) e d (t :: r) =
    (let x := valF n e (d + 1) (t :: r)
     let c := colonF t.to x.2
     let y := pvF n e d c.2.2
     let ks := x.1.app (if c.1 then y.1 else lackF (nextFr e x.2) y.1)
     (.cons 3 t.fr (max c.2.1 (ks.last 0)) ks .nil, y.2)) := by
  rw [prF.eq_def]
  unfold pvF
  rfl
theorem pr_step {n : Nat} (hv : ValP n) : PrP (n + 1) := by
  intro e d lo t r h
  obtain ⟨h1, h2, h3⟩ := h
  obtain ⟨⟨hi, a1, a2, a4⟩, a3⟩ := hv e (d + 1) t.fr t r ⟨Nat.le_refl _, h2, h3⟩
  rw [pr_eq]
  dsimp only
  generalize valF n e (d + 1) (t :: r) = x at *
  have fin : ∀ (to q : Nat) (g : Fo) (z : List Tk), x.1.ok t.fr hi → g.ok hi q → Srt e q z → t.fr ≤ to → to ≤ q → x.1.size + g.size + 6 * z.length + 2 ≤ 6 * (r.length + 1) →
      (∃ hi, (Fo.cons 3 t.fr (max to ((x.1.app g).last 0)) (x.1.app g) .nil).ok lo hi ∧ Srt e hi z) ∧ (Fo.cons 3 t.fr (max to ((x.1.app g).last 0)) (x.1.app g) .nil).size + 6 * z.length + 1 ≤ 6 * (r.length + 1) := by
    intro to q g z b1 b2 b3 b4 b5 b6
    have hok := Fo.ok_app b1 b2
    have hl := last_le hok (d := 0) (by omega)
    have hm := ok_max (to := to) hok b4
    refine ⟨⟨max to ((x.1.app g).last 0), ⟨h1, Fo.ok_le hm, by decide, by decide, fun h => by omega, hm, Nat.le_refl _⟩, Srt.lo b3 (Nat.max_le.2 ⟨b5, hl⟩)⟩, ?_⟩
    simp only [Fo.size, Fo.size_app]; omega
  obtain ⟨x1, x2⟩ := x
  dsimp only at *
  cases x2 with
  | nil =>
    obtain ⟨⟨q, c1, c2⟩, c3⟩ := pv_ok hv e d (nextFr e []) [] (Nat.le_refl _)
    simp only [colonF]
    refine fin t.to q _ _ a1 (lack_ok (nextFr_le a2).1 c1) c2 h2 ?_ ?_
    · have := Fo.ok_le c1
      have := (nextFr_le a2).1
      omega
    · simp only [Bool.false_eq_true, if_false]
      rw [lack_size]; simp only [List.length_nil] at *; omega
  | cons u v =>
    rw [show colonF t.to (u :: v) = if u.k == 4 then (true, u.to, v) else (false, t.to, u :: v) from rfl]
    split
    · obtain ⟨b1, b2, b3⟩ := a2
      obtain ⟨⟨q, c1, c2⟩, c3⟩ := pv_ok hv e d u.to v b3
      simp only
      have hle := Fo.ok_le c1
      refine fin u.to q _ _ a1 (Fo.ok_lo c1 (by omega)) c2 (by omega) hle ?_
      simp only [List.length_cons] at *; simp only [if_true]; omega
    · obtain ⟨⟨q, c1, c2⟩, c3⟩ := pv_ok hv e d (nextFr e (u :: v)) (u :: v) (nextFr_le a2).2
      simp only
      refine fin t.to q _ _ a1 (lack_ok (nextFr_le a2).1 c1) c2 h2 ?_ ?_
      · have := Fo.ok_le c1
        have := (nextFr_le a2).1
        omega
      · simp only [Bool.false_eq_true, if_false]
        rw [lack_size]; simp only [List.length_cons] at *; omega

theorem all_ok : ∀ n, ValP n ∧ LstP n ∧ ElmP n ∧ PrP n
  | 0 => by
    have one : ∀ (e lo : Nat) (t : Tk) (r : List Tk), Srt e lo (t :: r) → (∃ hi, (Fo.cons 7 t.fr t.to .nil .nil).ok lo hi ∧ Srt e hi r ∧ t.to ≤ hi) ∧ (Fo.cons 7 t.fr t.to .nil .nil).size + 6 * r.length + 4 ≤ 6 * (r.length + 1) :=
      fun e lo t r h => ⟨⟨t.to, one_ok h.1 h.2.1 (by omega) (by omega), h.2.2, Nat.le_refl _⟩, by simp only [Fo.size]; omega⟩
    refine ⟨?_, ?_, ?_, ?_⟩
    · intro e d lo t r h
      unfold valF
      exact one e lo t r h
    · intro e c d st lo ts h
      cases ts with
      | nil =>
        unfold lstF
        exact ⟨lack_ok h (Nat.le_refl _), Nat.le_refl _, by rw [lack_size]; simp only [Fo.size, List.length_nil]; omega⟩
      | cons t r =>
        unfold lstF
        exact ⟨lack_ok h.le (Nat.le_refl _), Nat.le_refl _, by rw [lack_size]; simp only [Fo.size, List.length_nil, List.length_cons]; omega⟩
    · intro e c d lo t r h
      unfold elmF
      obtain ⟨⟨hi, a, b, _⟩, c⟩ := one e lo t r h
      exact ⟨⟨hi, a, b⟩, by dsimp only; omega⟩
    · intro e d lo t r h
      unfold prF
      obtain ⟨⟨hi, a, b, _⟩, c⟩ := one e lo t r h
      exact ⟨⟨hi, a, b⟩, by dsimp only; omega⟩
  | n + 1 => by
    obtain ⟨a, b, c, d⟩ := all_ok n
    exact ⟨val_step b, lst_step c b, elm_step a d, pr_step a⟩

def blkB (b : UInt8) : Bool := b.toNat == 32 || b.toNat == 9 || b.toNat == 10 || b.toNat == 13
def digB (b : UInt8) : Bool := decide (48 ≤ b.toNat) && decide (b.toNat ≤ 57)
def letB (b : UInt8) : Bool := (decide (97 ≤ b.toNat) && decide (b.toNat ≤ 122)) || (decide (65 ≤ b.toNat) && decide (b.toNat ≤ 90)) || b.toNat == 95
/-- How many ahead are such. -/
def runL (p : UInt8 → Bool) (l : List UInt8) : Nat := (l.takeWhile p).length
/-- The whole number ahead; the fraction behind so many; the exponent behind so many. -/
def wholeL : List UInt8 → Nat
  | [] => 0
  | c :: r => if digB c then (if c.toNat == 48 then 1 else runL digB (c :: r)) else 0
def fracL : List UInt8 → Nat
  | p :: q :: r => if p.toNat == 46 && digB q then 1 + runL digB (q :: r) else 0
  | _ => 0
/-- Behind the e: its sign and digits. -/
def powL : List UInt8 → Nat
  | [] => 0
  | c :: r => if c.toNat == 43 || c.toNat == 45 then (if runL digB r = 0 then 0 else 1 + runL digB r) else runL digB (c :: r)
def expL : List UInt8 → Nat
  | [] => 0
  | x :: r => if x.toNat == 101 || x.toNat == 69 then (if powL r = 0 then 0 else 1 + powL r) else 0
def numL (l : List UInt8) : Nat :=
  let i := match l with
    | c :: _ => if c.toNat == 45 then 1 else 0
    | [] => 0
  if wholeL (l.drop i) = 0 then 0
  else
    let a := i + wholeL (l.drop i)
    let b := a + fracL (l.drop a)
    b + expL (l.drop b)
/-- Behind the quote: how many up to the end and with it; is there one? -/
def quoL : List UInt8 → Nat × Bool
  | [] => (0, false)
  | c :: r => if c.toNat == 10 then (0, false) else if c.toNat == 34 then (1, true) else
    match r with
    | [] => (1, false)
    | x :: q => if c.toNat == 92 && !(x.toNat == 10) then (2 + (quoL q).1, (quoL q).2) else (1 + (quoL (x :: q)).1, (quoL (x :: q)).2)
/-- Up to the first star and slash, and with them; is there one? -/
def starL : List UInt8 → Nat × Bool
  | [] => (0, false)
  | [_] => (1, false)
  | c :: x :: r => if c.toNat == 42 && x.toNat == 47 then (2, true) else (1 + (starL (x :: r)).1, (starL (x :: r)).2)
/-- Behind the slash: how many more; is it a remark? -/
def remL : List UInt8 → Nat × Bool
  | [] => (0, false)
  | c :: r => if c.toNat == 47 then (runL (fun b => !(b.toNat == 10)) (c :: r), true) else if c.toNat == 42 then (1 + (starL r).1, (starL r).2) else (0, false)
def wordL (w : List UInt8) : Bool := w.map UInt8.toNat == [116, 114, 117, 101] || w.map UInt8.toNat == [102, 97, 108, 115, 101] || w.map UInt8.toNat == [110, 117, 108, 108]
/-- The signs' kinds. -/
def signL (b : UInt8) : Option Nat :=
  if b.toNat == 123 then some 0 else if b.toNat == 125 then some 1 else if b.toNat == 91 then some 2 else if b.toNat == 93 then some 3 else if b.toNat == 58 then some 4 else if b.toNat == 44 then some 5 else none
/-- The first token: its kind, its length. -/
def tokL : List UInt8 → Nat × Nat
  | [] => (11, 0)
  | b :: r => match signL b with
    | some k => (k, 1)
    | none =>
      if blkB b then (10, 1 + runL blkB r)
      else if b.toNat == 34 then (if (quoL r).2 then 6 else 11, 1 + (quoL r).1)
      else if b.toNat == 47 then (if (remL r).2 then 9 else 11, 1 + (remL r).1)
      else if letB b then (if wordL ((b :: r).takeWhile letB) then 8 else 11, 1 + runL letB r)
      else if numL (b :: r) = 0 then (11, 1) else (7, numL (b :: r))
def toksF : Nat → Nat → List UInt8 → List Tk
  | _, _, [] => []
  | 0, _, _ :: _ => []
  | n + 1, at', b :: r => ⟨(tokL (b :: r)).1, at', at' + (tokL (b :: r)).2⟩ :: toksF n (at' + (tokL (b :: r)).2) ((b :: r).drop (tokL (b :: r)).2)
def toks (l : List UInt8) : List Tk := toksF l.length 0 l
/-- No blanks, no remarks. -/
def fineT (t : Tk) : Bool := !(t.k == 10) && !(t.k == 9)
def fine (l : List UInt8) : List Tk := (toks l).filter fineT
/-- What is below the root. -/
def parK (l : List UInt8) : Fo := topF (fine l).length l.length false (fine l)
def parF (l : List UInt8) : Fo := .cons 0 0 l.length (parK l) .nil
def parN (l : List UInt8) : List Nd := (parF l).flat (fun i => (i : Int)) 0

theorem run_le (p : UInt8 → Bool) (l : List UInt8) : runL p l ≤ l.length := (List.takeWhile_sublist p).length_le
theorem whole_le : ∀ l : List UInt8, wholeL l ≤ l.length
  | [] => Nat.le_refl _
  | c :: r => by
    unfold wholeL
    dsimp only
    split
    · split
      · simp only [List.length_cons]; omega
      · exact run_le _ _
    · exact Nat.zero_le _
theorem frac_le : ∀ l : List UInt8, fracL l ≤ l.length
  | [] => Nat.le_refl _
  | [_] => Nat.zero_le _
  | p :: q :: r => by
    unfold fracL
    dsimp only
    have := run_le digB (q :: r)
    split
    · simp only [List.length_cons] at *; omega
    · exact Nat.zero_le _
theorem pow_le : ∀ l : List UInt8, powL l ≤ l.length
  | [] => Nat.le_refl _
  | c :: r => by
    unfold powL
    dsimp only
    have := run_le digB r
    split
    · split <;> simp only [List.length_cons] <;> omega
    · exact run_le _ _
theorem exp_le : ∀ l : List UInt8, expL l ≤ l.length
  | [] => Nat.le_refl _
  | x :: r => by
    unfold expL
    dsimp only
    have := pow_le r
    split
    · split <;> simp only [List.length_cons] <;> omega
    · exact Nat.zero_le _
theorem num_le (l : List UInt8) : numL l ≤ l.length := by
  have key : ∀ i, i ≤ l.length → (if wholeL (l.drop i) = 0 then 0 else
      (let a := i + wholeL (l.drop i); let b := a + fracL (l.drop a); b + expL (l.drop b))) ≤ l.length := by
    intro i hi
    split
    · exact Nat.zero_le _
    · have h1 := whole_le (l.drop i)
      have h2 := frac_le (l.drop (i + wholeL (l.drop i)))
      have h3 := exp_le (l.drop (i + wholeL (l.drop i) + fracL (l.drop (i + wholeL (l.drop i)))))
      simp only [List.length_drop] at h1 h2 h3
      dsimp only
      omega
  unfold numL
  refine key _ ?_
  cases l with
  | nil => exact Nat.le_refl _
  | cons c r => dsimp only; split <;> simp only [List.length_cons] <;> omega
theorem quo_le : ∀ l : List UInt8, (quoL l).1 ≤ l.length
  | [] => Nat.le_refl _
  | [c] => by
    unfold quoL
    split
    · exact Nat.zero_le _
    · split <;> simp
  | c :: x :: q => by
    have h1 := quo_le q
    have h2 := quo_le (x :: q)
    rw [quoL.eq_def]
    dsimp only
    split
    · exact Nat.zero_le _
    split
    · simp only [List.length_cons]; omega
    split
    · simp only [List.length_cons] at *; omega
    · simp only [List.length_cons] at *; omega
theorem star_le : ∀ l : List UInt8, (starL l).1 ≤ l.length
  | [] => Nat.le_refl _
  | [_] => by simp [starL]
  | c :: x :: r => by
    have h2 := star_le (x :: r)
    unfold starL
    split
    · simp only [List.length_cons]; omega
    · simp only [List.length_cons] at *; omega
theorem rem_le : ∀ l : List UInt8, (remL l).1 ≤ l.length
  | [] => Nat.le_refl _
  | c :: r => by
    have := star_le r
    unfold remL
    dsimp only
    split
    · exact run_le _ _
    split
    · simp only [List.length_cons]; omega
    · exact Nat.zero_le _
theorem tok_le : ∀ (b : UInt8) (r : List UInt8), 1 ≤ (tokL (b :: r)).2 ∧ (tokL (b :: r)).2 ≤ r.length + 1 := by
  intro b r
  have h1 := run_le blkB r
  have h2 := quo_le r
  have h3 := rem_le r
  have h4 := run_le letB r
  have h5 := num_le (b :: r)
  unfold tokL
  dsimp only
  split
  · simp only; omega
  split
  · simp only; omega
  split
  · simp only; omega
  split
  · simp only; omega
  split
  · simp only; omega
  split
  · simp only; omega
  · simp only [List.length_cons] at *; omega
theorem toks_srt : ∀ (n a : Nat) (l : List UInt8), Srt (a + l.length) a (toksF n a l) ∧ (toksF n a l).length ≤ l.length
  | 0, a, [] => ⟨Nat.le_add_right .., by simp [toksF]⟩
  | n + 1, a, [] => ⟨Nat.le_add_right .., by simp [toksF]⟩
  | 0, a, _ :: _ => ⟨Nat.le_add_right .., by simp [toksF]⟩
  | n + 1, a, b :: r => by
    obtain ⟨h1, h2⟩ := tok_le b r
    have ih := toks_srt n (a + (tokL (b :: r)).2) ((b :: r).drop (tokL (b :: r)).2)
    have e : (tokL (b :: r)).2 + ((b :: r).drop (tokL (b :: r)).2).length = (b :: r).length := by
      simp only [List.length_drop, List.length_cons]; omega
    rw [Nat.add_assoc, e] at ih
    unfold toksF
    refine ⟨⟨Nat.le_refl _, Nat.le_add_right .., ih.1⟩, ?_⟩
    have := ih.2
    simp only [List.length_drop, List.length_cons] at *
    omega
theorem Srt.filter {e : Nat} (p : Tk → Bool) : ∀ {ts : List Tk} {lo : Nat}, Srt e lo ts → Srt e lo (ts.filter p)
  | [], _, h => h
  | t :: r, lo, h => by
    have ih := Srt.filter p (ts := r) h.2.2
    rw [List.filter_cons]
    split
    · exact ⟨h.1, h.2.1, ih⟩
    · exact ih.lo (by have := h.1; have := h.2.1; omega)
theorem fine_srt (l : List UInt8) : Srt l.length 0 (fine l) ∧ (fine l).length ≤ l.length := by
  have h := toks_srt l.length 0 l
  rw [Nat.zero_add] at h
  exact ⟨h.1.filter _, Nat.le_trans (List.length_filter_le ..) h.2⟩

end Go.Proofs.YtjmfjlffcopnnaaGreatDoor
