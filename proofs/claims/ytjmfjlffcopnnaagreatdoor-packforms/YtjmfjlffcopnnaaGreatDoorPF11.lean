/-
  RnM, RnN, DlM, DlN, DlP, in one text. Conditions: as each theorem's premises say.
-/
import Derived.Test.YtjmfjlffcopnnaaGreatDoorPF03
namespace Go.Proofs.YtjmfjlffcopnnaaGreatDoor

/-- A tree: its root's kind, span, and what is below. -/
structure Nt where
  kd : Nat
  fr : Nat
  to : Nat
  ks : Fo
def Nt.size (x : Nt) : Nat := 1 + x.ks.size

/-! Which old id each new node takes, in preorder -/

/-- The ids rise, from lo on, below hi. -/
def Inc (hi : Nat) : Nat → List (Option Nat) → Prop
  | lo, [] => lo ≤ hi
  | lo, none :: r => Inc hi lo r
  | lo, some v :: r => lo ≤ v ∧ Inc hi (v + 1) r
theorem Inc.le {hi : Nat} : ∀ {r : List (Option Nat)} {lo : Nat}, Inc hi lo r → lo ≤ hi
  | [], _, h => h
  | none :: r, _, h => Inc.le (r := r) h
  | some _ :: r, _, h => by have := Inc.le (r := r) h.2; have := h.1; omega
theorem Inc.lo {hi : Nat} : ∀ {r : List (Option Nat)} {lo lo' : Nat}, Inc hi lo r → lo' ≤ lo → Inc hi lo' r
  | [], _, _, h, h' => Nat.le_trans h' h
  | none :: r, _, _, h, h' => Inc.lo (r := r) h h'
  | some _ :: _, _, _, h, h' => ⟨Nat.le_trans h' h.1, h.2⟩
theorem Inc.app {hi mid : Nat} : ∀ {a b : List (Option Nat)} {lo : Nat}, Inc mid lo a → Inc hi mid b → Inc hi lo (a ++ b)
  | [], _, _, h, h' => h'.lo h
  | none :: a, _, _, h, h' => Inc.app (a := a) h h'
  | some _ :: a, _, _, h, h' => ⟨h.1, Inc.app (a := a) h.2 h'⟩

/-- Old trees one behind the other. -/
def Tp (hi : Nat) : Nat → List (Nat × Nt) → Prop
  | lo, [] => lo ≤ hi
  | lo, o :: r => lo ≤ o.1 ∧ Tp hi (o.1 + o.2.size) r
theorem Tp.le {hi : Nat} : ∀ {r : List (Nat × Nt)} {lo : Nat}, Tp hi lo r → lo ≤ hi
  | [], _, h => h
  | _ :: r, _, h => by have := Tp.le (r := r) h.2; have := h.1; omega

/-- Old and new trees are alike, one by one. -/
def Lk (p : Nt → Nt → Bool) : List (Nat × Nt) → List Nt → Prop
  | [], [] => True
  | o :: os, n :: ns => p o.2 n = true ∧ Lk p os ns
  | _, _ => False
theorem Lk.app {p : Nt → Nt → Bool} : ∀ {a b : List (Nat × Nt)} {c d : List Nt}, Lk p a c → Lk p b d → Lk p (a ++ b) (c ++ d)
  | [], _, [], _, _, h => h
  | _ :: a, _, _ :: c, _, h, h' => ⟨h.1, Lk.app (a := a) (c := c) h.2 h'⟩
  | [], _, _ :: _, _, h, _ => h.elim
  | _ :: _, _, [], _, h, _ => h.elim

/-- Each new node has the kind of the old one whose id it takes. -/
def Km (kind : Nat → Nat) : List (Option Nat) → List Nat → Prop
  | [], [] => True
  | none :: r, _ :: ks => Km kind r ks
  | some v :: r, k :: ks => kind v = k ∧ Km kind r ks
  | _, _ => False
theorem Km.app {kind : Nat → Nat} : ∀ {a b : List (Option Nat)} {c d : List Nat}, Km kind a c → Km kind b d → Km kind (a ++ b) (c ++ d)
  | [], _, [], _, _, h => h
  | none :: a, _, _ :: c, _, h, h' => Km.app (a := a) (c := c) h h'
  | some _ :: a, _, _ :: c, _, h, h' => ⟨h.1, Km.app (a := a) (c := c) h.2 h'⟩
  | [], _, _ :: _, _, h, _ => h.elim
  | none :: _, _, [], _, h, _ => h.elim
  | some _ :: _, _, [], _, h, _ => h.elim
theorem Km.len {kind : Nat → Nat} : ∀ {a : List (Option Nat)} {c : List Nat}, Km kind a c → a.length = c.length
  | [], [], _ => rfl
  | none :: a, _ :: c, h => congrArg (· + 1) (Km.len (a := a) (c := c) h)
  | some _ :: a, _ :: c, h => congrArg (· + 1) (Km.len (a := a) (c := c) h.2)
  | [], _ :: _, h => h.elim
  | none :: _, [], h => h.elim
  | some _ :: _, [], h => h.elim

/-- A step: its kind, id, node's kind, span, children. -/
structure St where
  kd : Int
  id : Int
  nd : Int
  fr : Int
  to : Int
  kids : List Int

def idB (i : Int) : Bool := decide (0 ≤ i) && decide (i < 16777216)
def stepMay (s : St) : Bool := idB s.id && (
  (s.kd == 0 && s.nd == 0 && s.fr == 0 && s.to == 0 && s.kids.isEmpty)
  || (s.kd == 1 && decide (0 ≤ s.nd) && decide (s.nd ≤ 7) && s.fr == 0 && s.to == 0 && s.kids.isEmpty)
  || (s.kd == 2 && s.nd == 0 && s.fr == 0 && s.to == 0 && s.kids.all idB && decide (s.kids.length ≤ 2048))
  || (s.kd == 3 && s.nd == 0 && decide (0 ≤ s.fr) && decide (s.fr ≤ s.to) && decide (s.to ≤ 4096) && s.kids.isEmpty))

/-! What is found behind a step -/

theorem get_cons (x : Nd) (ns : List Nd) (i : Int) : getN (x :: ns) i = if x.id = i then some x else getN ns i := by
  unfold getN
  rw [List.find?_cons]
  by_cases h : x.id = i
  · simp [h]
  · simp [h, beq_eq_false_iff_ne.2 h]

/-- Unlike ones that are all among others are not more than those. -/
theorem pigeon {α : Type} [BEq α] [LawfulBEq α] : ∀ (l m : List α), l.Nodup → (∀ x ∈ l, x ∈ m) → l.length ≤ m.length
  | [], _, _, _ => Nat.zero_le _
  | x :: l, m, hn, hs => by
    rw [List.nodup_cons] at hn
    have hx := hs x (List.mem_cons_self ..)
    have ih := pigeon l (m.erase x) hn.2 (fun y hy => by
      have hne : y ≠ x := fun e => hn.1 (e ▸ hy)
      exact (List.mem_erase_of_ne hne).2 (hs y (List.mem_cons_of_mem _ hy)))
    rw [List.length_erase_of_mem hx] at ih
    have := List.length_pos_of_mem hx
    rw [List.length_cons]
    omega
theorem count_kids {ns : List Nd} {x : Nd} (h : x ∈ ns) (v : Int) : x.kids.count v ≤ (allKids ns).count v := by
  unfold allKids
  induction ns with
  | nil => cases h
  | cons y r ih =>
    rw [List.flatMap_cons, List.count_append]
    rcases List.mem_cons.1 h with rfl | h
    · omega
    · have := ih h
      omega

end Go.Proofs.YtjmfjlffcopnnaaGreatDoor
