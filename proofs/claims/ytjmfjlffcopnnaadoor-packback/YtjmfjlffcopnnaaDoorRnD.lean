/-
  RnM, RnN, DlM, DlN, DlP, in one text. Conditions: as each theorem's premises say.
-/
import Derived.Test.YtjmfjlffcopnnaaDoorMaA
namespace Go.Proofs.YtjmfjlffcopnnaaDoor

/-- A tree: its root's kind, span, and what is below. -/
structure Nt where
  kd : Nat
  fr : Nat
  to : Nat
  ks : Fo
def Nt.size (x : Nt) : Nat := 1 + x.ks.size
def Fo.tops : Fo → Nat → List (Nat × Nt)
  | .nil, _ => []
  | .cons kd fr to k r, b => (b, ⟨kd, fr, to, k⟩) :: r.tops (b + 1 + k.size)
def Fo.kinds : Fo → List Nat
  | .nil => []
  | .cons kd _ _ k r => kd :: (k.kinds ++ r.kinds)
def Nt.kinds (x : Nt) : List Nat := x.kd :: x.ks.kinds

def bytesL (s : List UInt8) (fr to : Nat) : List UInt8 := (s.drop fr).take (to - fr)
/-- Are two rows of trees alike, in kinds, bytes and places? -/
def likeF (s u : List UInt8) : Nat → Nat → Fo → Fo → Bool
  | _, _, .nil, .nil => true
  | a, b, .cons kd fr to k r, .cons kd' fr' to' k' r' =>
    decide ((fr : Int) - a = (fr' : Int) - b) && (kd == kd') && (bytesL s fr to == bytesL u fr' to') && likeF s u fr fr' k k' && likeF s u a b r r'
  | _, _, _, _ => false
def likeN (s u : List UInt8) (x y : Nt) : Bool := (x.kd == y.kd) && (bytesL s x.fr x.to == bytesL u y.fr y.to) && likeF s u x.fr y.fr x.ks y.ks

theorem like_kinds (s u : List UInt8) : ∀ (f g : Fo) (a b : Nat), likeF s u a b f g = true → f.kinds = g.kinds
  | .nil, .nil, _, _, _ => rfl
  | .nil, .cons .., _, _, h => by simp [likeF] at h
  | .cons .., .nil, _, _, h => by simp [likeF] at h
  | .cons kd fr to k r, .cons kd' fr' to' k' r', a, b, h => by
    simp only [likeF, Bool.and_eq_true, beq_iff_eq] at h
    obtain ⟨⟨⟨⟨_, h2⟩, _⟩, h4⟩, h5⟩ := h
    simp only [Fo.kinds, h2, like_kinds s u k k' _ _ h4, like_kinds s u r r' _ _ h5]
theorem likeN_kinds {s u : List UInt8} {x y : Nt} (h : likeN s u x y = true) : x.kinds = y.kinds := by
  simp only [likeN, Bool.and_eq_true, beq_iff_eq] at h
  simp only [Nt.kinds, h.1.1, like_kinds s u _ _ _ _ h.2]
theorem like_self (s : List UInt8) : ∀ (f : Fo) (a : Nat), likeF s s a a f f = true
  | .nil, _ => rfl
  | .cons kd fr to k r, a => by
    simp only [likeF, Bool.and_eq_true, beq_iff_eq, decide_eq_true_eq, like_self s k fr, like_self s r a, and_self]
theorem likeN_self (s : List UInt8) (x : Nt) : likeN s s x x = true := by
  simp only [likeN, Bool.and_eq_true, beq_iff_eq, like_self, and_self]
theorem kinds_len : ∀ f : Fo, f.kinds.length = f.size
  | .nil => rfl
  | .cons _ _ _ k r => by simp only [Fo.kinds, List.length_cons, List.length_append, kinds_len k, kinds_len r, Fo.size]; omega
theorem Nt.kinds_len (x : Nt) : x.kinds.length = x.size := by
  simp only [Nt.kinds, List.length_cons, Go.Proofs.YtjmfjlffcopnnaaDoor.kinds_len, Nt.size]; omega

/-! Which old id each new node takes, in preorder -/

def wholeA (b n : Nat) : List (Option Nat) := (List.range' b n).map some
def noneA (n : Nat) : List (Option Nat) := List.replicate n none
def frontA : List (Nat × Nt) → List Nt → List (Option Nat)
  | o :: os, n :: ns => wholeA o.1 n.size ++ frontA os ns
  | _, _ => []
def midA (g : Nat → Nt → Nt → List (Option Nat)) : List (Nat × Nt) → List Nt → List (Option Nat)
  | _, [] => []
  | [], n :: ns => noneA n.size ++ midA g [] ns
  | o :: os, n :: ns => (if o.2.kd = n.kd then g o.1 o.2 n else noneA n.size) ++ midA g os ns
def aheadC (p : Nt → Nt → Bool) : List (Nat × Nt) → List Nt → Nat
  | o :: os, n :: ns => if p o.2 n then aheadC p os ns + 1 else 0
  | _, _ => 0
def alA (s u : List UInt8) : Nat → Nat → Nt → Nt → List (Option Nat)
  | 0, b, _, y => some b :: noneA y.ks.size
  | n + 1, b, x, y =>
    let os := x.ks.tops (b + 1)
    let ns := (y.ks.tops 0).map Prod.snd
    let i := aheadC (likeN s u) os ns
    let o' := os.drop i
    let n' := ns.drop i
    let j := aheadC (likeN s u) o'.reverse n'.reverse
    some b :: (frontA (os.take i) (ns.take i) ++ (midA (alA s u n) (o'.take (o'.length - j)) (n'.take (n'.length - j)) ++ frontA (o'.drop (o'.length - j)) (n'.drop (n'.length - j))))

/-- The ids rise, from lo on, below hi. -/
def Inc (hi : Nat) : Nat → List (Option Nat) → Prop
  | lo, [] => lo ≤ hi
  | lo, none :: r => Inc hi lo r
  | lo, some v :: r => lo ≤ v ∧ Inc hi (v + 1) r
theorem Inc.le {hi : Nat} : ∀ {r : List (Option Nat)} {lo : Nat}, Inc hi lo r → lo ≤ hi
  | [], _, h => h
  | none :: r, _, h => Inc.le (r := r) h
  | some _ :: r, _, h => by have := Inc.le (r := r) h.2; have := h.1; omega
theorem Inc.lo {hi : Nat} : ∀ {r : List (Option Nat)} {lo lo' : Nat}, Inc hi lo r → lo' ≤ lo → Inc hi lo' r
  | [], _, _, h, h' => Nat.le_trans h' h
  | none :: r, _, _, h, h' => Inc.lo (r := r) h h'
  | some _ :: _, _, _, h, h' => ⟨Nat.le_trans h' h.1, h.2⟩
theorem Inc.app {hi mid : Nat} : ∀ {a b : List (Option Nat)} {lo : Nat}, Inc mid lo a → Inc hi mid b → Inc hi lo (a ++ b)
  | [], _, _, h, h' => h'.lo h
  | none :: a, _, _, h, h' => Inc.app (a := a) h h'
  | some _ :: a, _, _, h, h' => ⟨h.1, Inc.app (a := a) h.2 h'⟩
theorem inc_none {hi lo : Nat} (h : lo ≤ hi) : ∀ n, Inc hi lo (noneA n)
  | 0 => h
  | n + 1 => by
    unfold noneA
    rw [List.replicate_succ]
    exact inc_none h n
theorem inc_whole : ∀ (n b : Nat), Inc (b + n) b (wholeA b n)
  | 0, b => Nat.le_refl _
  | n + 1, b => by
    have := inc_whole n (b + 1)
    unfold wholeA at *
    rw [List.range'_succ, List.map_cons]
    refine ⟨Nat.le_refl _, ?_⟩
    rw [show b + (n + 1) = b + 1 + n by omega]
    exact this

/-- Old trees one behind the other. -/
def Tp (hi : Nat) : Nat → List (Nat × Nt) → Prop
  | lo, [] => lo ≤ hi
  | lo, o :: r => lo ≤ o.1 ∧ Tp hi (o.1 + o.2.size) r
theorem Tp.le {hi : Nat} : ∀ {r : List (Nat × Nt)} {lo : Nat}, Tp hi lo r → lo ≤ hi
  | [], _, h => h
  | _ :: r, _, h => by have := Tp.le (r := r) h.2; have := h.1; omega
theorem Tp.parts {hi : Nat} : ∀ {a b : List (Nat × Nt)} {lo : Nat}, Tp hi lo (a ++ b) → ∃ mid, Tp mid lo a ∧ Tp hi mid b
  | [], _, lo, h => ⟨lo, Nat.le_refl _, h⟩
  | _ :: a, _, _, h => by
    obtain ⟨mid, h1, h2⟩ := Tp.parts (a := a) h.2
    exact ⟨mid, ⟨h.1, h1⟩, h2⟩
theorem tops_tp : ∀ (f : Fo) (b : Nat), Tp (b + f.size) b (f.tops b)
  | .nil, b => Nat.le_refl _
  | .cons kd fr to k r, b => by
    have := tops_tp r (b + 1 + k.size)
    unfold Fo.tops
    refine ⟨Nat.le_refl _, ?_⟩
    simp only [Nt.size, Fo.size]
    rw [show b + (1 + k.size + r.size) = b + 1 + k.size + r.size by omega, show b + (1 + k.size) = b + 1 + k.size by omega]
    exact this

/-- Old and new trees are alike, one by one. -/
def Lk (p : Nt → Nt → Bool) : List (Nat × Nt) → List Nt → Prop
  | [], [] => True
  | o :: os, n :: ns => p o.2 n = true ∧ Lk p os ns
  | _, _ => False
theorem Lk.app {p : Nt → Nt → Bool} : ∀ {a b : List (Nat × Nt)} {c d : List Nt}, Lk p a c → Lk p b d → Lk p (a ++ b) (c ++ d)
  | [], _, [], _, _, h => h
  | _ :: a, _, _ :: c, _, h, h' => ⟨h.1, Lk.app (a := a) (c := c) h.2 h'⟩
  | [], _, _ :: _, _, h, _ => h.elim
  | _ :: _, _, [], _, h, _ => h.elim
theorem Lk.rev {p : Nt → Nt → Bool} : ∀ {a : List (Nat × Nt)} {c : List Nt}, Lk p a c → Lk p a.reverse c.reverse
  | [], [], _ => trivial
  | _ :: a, _ :: c, h => by
    rw [List.reverse_cons, List.reverse_cons]
    exact Lk.app (Lk.rev (a := a) (c := c) h.2) ⟨h.1, trivial⟩
  | [], _ :: _, h => h.elim
  | _ :: _, [], h => h.elim
theorem ahead_lk (p : Nt → Nt → Bool) : ∀ (a : List (Nat × Nt)) (c : List Nt), Lk p (a.take (aheadC p a c)) (c.take (aheadC p a c)) ∧ aheadC p a c ≤ a.length ∧ aheadC p a c ≤ c.length
  | [], [] => ⟨trivial, Nat.le_refl _, Nat.le_refl _⟩
  | [], _ :: _ => ⟨trivial, Nat.le_refl _, Nat.zero_le _⟩
  | _ :: _, [] => ⟨trivial, Nat.zero_le _, Nat.le_refl _⟩
  | o :: a, n :: c => by
    have ih := ahead_lk p a c
    unfold aheadC
    split
    · rename_i h
      rw [List.take_succ_cons, List.take_succ_cons]
      exact ⟨⟨h, ih.1⟩, Nat.succ_le_succ ih.2.1, Nat.succ_le_succ ih.2.2⟩
    · exact ⟨trivial, Nat.zero_le _, Nat.zero_le _⟩
theorem behind_lk (p : Nt → Nt → Bool) (a : List (Nat × Nt)) (c : List Nt) :
    Lk p (a.drop (a.length - aheadC p a.reverse c.reverse)) (c.drop (c.length - aheadC p a.reverse c.reverse)) := by
  have h := (ahead_lk p a.reverse c.reverse).1.rev
  rw [List.reverse_take, List.reverse_take, List.reverse_reverse, List.reverse_reverse, List.length_reverse, List.length_reverse] at h
  exact h

/-- The old nodes' kinds, from b on. -/
def Ko (kind : Nat → Nat) : Nat → List Nat → Prop
  | _, [] => True
  | b, k :: r => kind b = k ∧ Ko kind (b + 1) r
theorem Ko.parts {kind : Nat → Nat} : ∀ {a c : List Nat} {b : Nat}, Ko kind b (a ++ c) → Ko kind b a ∧ Ko kind (b + a.length) c
  | [], _, _, h => ⟨trivial, h⟩
  | _ :: a, c, b, h => by
    have := Ko.parts (a := a) (c := c) h.2
    refine ⟨⟨h.1, this.1⟩, ?_⟩
    rw [List.length_cons, show b + (a.length + 1) = b + 1 + a.length by omega]
    exact this.2
theorem tops_ko {kind : Nat → Nat} : ∀ (f : Fo) (b : Nat), Ko kind b f.kinds → ∀ o ∈ f.tops b, Ko kind o.1 o.2.kinds
  | .nil, _, _ => by intro o ho; simp [Fo.tops] at ho
  | .cons kd fr to k r, b, h => by
    intro o ho
    obtain ⟨h1, h2⟩ := h
    have h3 := Ko.parts h2
    rw [kinds_len] at h3
    unfold Fo.tops at ho
    rcases List.mem_cons.1 ho with rfl | ho
    · exact ⟨h1, h3.1⟩
    · exact tops_ko r _ h3.2 o ho
theorem tops_kinds : ∀ (f : Fo) (b : Nat), ((f.tops b).map Prod.snd).flatMap Nt.kinds = f.kinds
  | .nil, _ => rfl
  | .cons kd fr to k r, b => by
    simp only [Fo.tops, List.map_cons, List.flatMap_cons, tops_kinds r, Nt.kinds, Fo.kinds, List.cons_append]

/-- Each new node has the kind of the old one whose id it takes. -/
def Km (kind : Nat → Nat) : List (Option Nat) → List Nat → Prop
  | [], [] => True
  | none :: r, _ :: ks => Km kind r ks
  | some v :: r, k :: ks => kind v = k ∧ Km kind r ks
  | _, _ => False
theorem Km.app {kind : Nat → Nat} : ∀ {a b : List (Option Nat)} {c d : List Nat}, Km kind a c → Km kind b d → Km kind (a ++ b) (c ++ d)
  | [], _, [], _, _, h => h
  | none :: a, _, _ :: c, _, h, h' => Km.app (a := a) (c := c) h h'
  | some _ :: a, _, _ :: c, _, h, h' => ⟨h.1, Km.app (a := a) (c := c) h.2 h'⟩
  | [], _, _ :: _, _, h, _ => h.elim
  | none :: _, _, [], _, h, _ => h.elim
  | some _ :: _, _, [], _, h, _ => h.elim
theorem Km.len {kind : Nat → Nat} : ∀ {a : List (Option Nat)} {c : List Nat}, Km kind a c → a.length = c.length
  | [], [], _ => rfl
  | none :: a, _ :: c, h => congrArg (· + 1) (Km.len (a := a) (c := c) h)
  | some _ :: a, _ :: c, h => congrArg (· + 1) (Km.len (a := a) (c := c) h.2)
  | [], _ :: _, h => h.elim
  | none :: _, [], h => h.elim
  | some _ :: _, [], h => h.elim
theorem km_none (kind : Nat → Nat) : ∀ (ks : List Nat), Km kind (noneA ks.length) ks
  | [] => trivial
  | _ :: ks => km_none kind ks
theorem km_whole {kind : Nat → Nat} : ∀ (ks : List Nat) (b : Nat), Ko kind b ks → Km kind (wholeA b ks.length) ks
  | [], _, _ => trivial
  | k :: ks, b, h => by
    have := km_whole ks (b + 1) h.2
    unfold wholeA at *
    rw [List.length_cons, List.range'_succ, List.map_cons]
    exact ⟨h.1, this⟩
theorem front_ok {kind : Nat → Nat} {s u : List UInt8} {hi : Nat} : ∀ {os : List (Nat × Nt)} {ns : List Nt} {lo : Nat}, Lk (likeN s u) os ns → Tp hi lo os → (∀ o ∈ os, Ko kind o.1 o.2.kinds) →
    Inc hi lo (frontA os ns) ∧ Km kind (frontA os ns) (ns.flatMap Nt.kinds)
  | [], [], _, _, h, _ => ⟨h, trivial⟩
  | [], _ :: _, _, h, _, _ => h.elim
  | _ :: _, [], _, h, _, _ => h.elim
  | o :: os, n :: ns, lo, h, ht, hk => by
    have ih := front_ok (os := os) (ns := ns) h.2 ht.2 (fun x hx => hk x (List.mem_cons_of_mem _ hx))
    have hkk := likeN_kinds h.1
    have hs : o.2.size = n.size := by rw [← Nt.kinds_len, ← Nt.kinds_len, hkk]
    unfold frontA
    refine ⟨((inc_whole n.size o.1).lo ht.1).app (hs ▸ ih.1), ?_⟩
    rw [List.flatMap_cons]
    refine Km.app ?_ ih.2
    have := km_whole o.2.kinds o.1 (hk o (List.mem_cons_self ..))
    rw [hkk, Nt.kinds_len] at this
    exact this
theorem mid_ok {kind : Nat → Nat} {g : Nat → Nt → Nt → List (Option Nat)} (hg : ∀ b x y, x.kd = y.kd → Ko kind b x.kinds → Inc (b + x.size) b (g b x y) ∧ Km kind (g b x y) y.kinds) {hi : Nat} :
    ∀ {os : List (Nat × Nt)} {ns : List Nt} {lo : Nat}, Tp hi lo os → (∀ o ∈ os, Ko kind o.1 o.2.kinds) →
    Inc hi lo (midA g os ns) ∧ Km kind (midA g os ns) (ns.flatMap Nt.kinds)
  | os, [], _, h, _ => by
    have : midA g os [] = [] := by unfold midA; cases os <;> rfl
    rw [this]
    exact ⟨h.le, trivial⟩
  | [], n :: ns, _, h, hk => by
    have ih := mid_ok hg (os := []) (ns := ns) h hk
    unfold midA
    rw [List.flatMap_cons]
    refine ⟨(inc_none (Nat.le_refl _) n.size).app ih.1, Km.app ?_ ih.2⟩
    rw [← Nt.kinds_len]
    exact km_none ..
  | o :: os, n :: ns, _, h, hk => by
    have ih := mid_ok hg (os := os) (ns := ns) h.2 (fun x hx => hk x (List.mem_cons_of_mem _ hx))
    unfold midA
    rw [List.flatMap_cons]
    have hle := h.2.le
    split
    · rename_i he
      have := hg o.1 o.2 n he (hk o (List.mem_cons_self ..))
      exact ⟨(this.1.lo h.1).app ih.1, this.2.app ih.2⟩
    · refine ⟨(inc_none (Nat.le_trans h.1 (Nat.le_add_right ..)) n.size).app ih.1, Km.app ?_ ih.2⟩
      rw [← Nt.kinds_len]
      exact km_none ..
theorem al_ok {kind : Nat → Nat} {s u : List UInt8} : ∀ (n b : Nat) (x y : Nt), x.kd = y.kd → Ko kind b x.kinds → Inc (b + x.size) b (alA s u n b x y) ∧ Km kind (alA s u n b x y) y.kinds
  | 0, b, x, y, he, hk => by
    unfold alA
    refine ⟨⟨Nat.le_refl _, inc_none (by simp only [Nt.size]; omega) _⟩, hk.1.trans he, ?_⟩
    rw [← kinds_len]
    exact km_none ..
  | n + 1, b, x, y, he, hk => by
    unfold alA
    dsimp only
    have hkk : ∀ o ∈ x.ks.tops (b + 1), Ko kind o.1 o.2.kinds := tops_ko x.ks (b + 1) hk.2
    have ht := tops_tp x.ks (b + 1)
    rw [show b + 1 + x.ks.size = b + x.size by simp only [Nt.size]; omega] at ht
    have hks := tops_kinds y.ks 0
    generalize x.ks.tops (b + 1) = os at *
    generalize (y.ks.tops 0).map Prod.snd = ns at *
    have h1 := ahead_lk (likeN s u) os ns
    generalize aheadC (likeN s u) os ns = i at *
    have h2 := behind_lk (likeN s u) (os.drop i) (ns.drop i)
    generalize aheadC (likeN s u) (os.drop i).reverse (ns.drop i).reverse = j at *
    have e1 := List.take_append_drop i os
    have e2 := List.take_append_drop ((os.drop i).length - j) (os.drop i)
    have e3 := List.take_append_drop i ns
    have e4 := List.take_append_drop ((ns.drop i).length - j) (ns.drop i)
    generalize os.take i = os1 at *
    generalize ns.take i = ns1 at *
    generalize os.drop i = o' at *
    generalize ns.drop i = n' at *
    generalize o'.take (o'.length - j) = os2 at *
    generalize o'.drop (o'.length - j) = os3 at *
    generalize n'.take (n'.length - j) = ns2 at *
    generalize n'.drop (n'.length - j) = ns3 at *
    subst e1 e2 e3 e4
    obtain ⟨m1, t1, t2⟩ := ht.parts
    obtain ⟨m2, t3, t4⟩ := t2.parts
    have f1 := front_ok h1.1 t1 (fun o ho => hkk o (List.mem_append_left _ ho))
    have f2 := mid_ok (g := alA s u n) (fun b x y he hk => al_ok n b x y he hk) (os := os2) (ns := ns2) t3 (fun o ho => hkk o (List.mem_append_right _ (List.mem_append_left _ ho)))
    have f3 := front_ok h2 t4 (fun o ho => hkk o (List.mem_append_right _ (List.mem_append_right _ ho)))
    refine ⟨⟨Nat.le_refl _, f1.1.app (f2.1.app f3.1)⟩, hk.1.trans he, ?_⟩
    rw [← hks, List.flatMap_append, List.flatMap_append]
    exact f1.2.app (f2.2.app f3.2)

/-- Who has no id gets the next one. -/
def fillA : Nat → List (Option Nat) → List Nat
  | _, [] => []
  | n, none :: r => n :: fillA (n + 1) r
  | n, some v :: r => v :: fillA n r
def nextA : Nat → List (Option Nat) → Nat
  | n, [] => n
  | n, none :: r => nextA (n + 1) r
  | n, some _ :: r => nextA n r
/-- A node behind those whose ids are not greater. -/
def insN (x : Nd) : List Nd → List Nd
  | [] => [x]
  | y :: r => if x.id < y.id then x :: y :: r else y :: insN x r

def asgA (s u : List UInt8) : List (Option Nat) := alA s u ((parK u).size + 1) 0 ⟨0, 0, s.length, parK s⟩ ⟨0, 0, u.length, parK u⟩
def idsA (s u : List UInt8) : List Nat := fillA ((parK s).size + 1) (asgA s u)
def widA (s u : List UInt8) (i : Nat) : Int := (((idsA s u)[i]?).getD 0 : Nat)
def renL (s u : List UInt8) : List Nd := (parF u).flat (widA s u) 0
def renN (s u : List UInt8) : List Nd := (renL s u).foldl (fun ns x => insN x ns) []
def renX (s u : List UInt8) : Nat := nextA ((parK s).size + 1) (asgA s u)

theorem fill_ok : ∀ (r : List (Option Nat)) (n lo hi : Nat), Inc hi lo r → hi ≤ n →
    (∀ v ∈ fillA n r, (lo ≤ v ∧ v < hi) ∨ (n ≤ v ∧ v < nextA n r)) ∧ (fillA n r).Nodup ∧ n ≤ nextA n r ∧ nextA n r ≤ n + r.length ∧ (fillA n r).length = r.length
  | [], n, lo, hi, _, _ => ⟨by intro v hv; simp [fillA] at hv, List.nodup_nil, Nat.le_refl _, Nat.le_refl _, rfl⟩
  | none :: r, n, lo, hi, h, hn => by
    obtain ⟨a, b, c, d, e⟩ := fill_ok r (n + 1) lo hi h (by omega)
    unfold fillA nextA
    refine ⟨?_, ?_, by omega, by simp only [List.length_cons]; omega, by simp only [List.length_cons, e]⟩
    · intro v hv
      rcases List.mem_cons.1 hv with rfl | hv
      · exact .inr ⟨Nat.le_refl _, by omega⟩
      · have := a v hv
        omega
    · rw [List.nodup_cons]
      refine ⟨fun hv => ?_, b⟩
      have := a n hv
      omega
  | some w :: r, n, lo, hi, h, hn => by
    obtain ⟨h1, h2⟩ := h
    have hle := h2.le
    obtain ⟨a, b, c, d, e⟩ := fill_ok r n (w + 1) hi h2 hn
    unfold fillA nextA
    refine ⟨?_, ?_, by omega, by simp only [List.length_cons]; omega, by simp only [List.length_cons, e]⟩
    · intro v hv
      rcases List.mem_cons.1 hv with rfl | hv
      · exact .inl ⟨h1, by omega⟩
      · have := a v hv
        omega
    · rw [List.nodup_cons]
      refine ⟨fun hv => ?_, b⟩
      have := a w hv
      omega
theorem fill_get : ∀ (r : List (Option Nat)) (n i v : Nat), (fillA n r)[i]? = some v → r[i]? = some (some v) ∨ n ≤ v
  | [], _, _, _, h => by simp [fillA] at h
  | none :: r, n, 0, v, h => by simp [fillA] at h; exact .inr (by omega)
  | some w :: r, n, 0, v, h => by simp [fillA] at h; exact .inl (by simp [h])
  | none :: r, n, i + 1, v, h => by
    simp only [fillA, List.getElem?_cons_succ] at h
    rcases fill_get r (n + 1) i v h with h | h
    · exact .inl (by simpa using h)
    · exact .inr (by omega)
  | some w :: r, n, i + 1, v, h => by
    simp only [fillA, List.getElem?_cons_succ] at h
    rcases fill_get r n i v h with h | h
    · exact .inl (by simpa using h)
    · exact .inr h
theorem km_get {kind : Nat → Nat} : ∀ {r : List (Option Nat)} {ks : List Nat} {i v : Nat}, Km kind r ks → r[i]? = some (some v) → ks[i]? = some (kind v)
  | none :: _, _ :: _, 0, _, _, h => by simp at h
  | some w :: _, k :: _, 0, v, hk, h => by
    simp only [List.getElem?_cons_zero, Option.some.injEq] at h
    subst h
    simp [hk.1]
  | none :: r, _ :: ks, i + 1, v, hk, h => by
    simp only [List.getElem?_cons_succ] at h ⊢
    exact km_get (r := r) (ks := ks) hk h
  | some _ :: r, _ :: ks, i + 1, v, hk, h => by
    simp only [List.getElem?_cons_succ] at h ⊢
    exact km_get (r := r) (ks := ks) hk.2 h
  | [], _, _, _, _, h => by simp at h
  | none :: _, [], _, _, hk, _ => hk.elim
  | some _ :: _, [], _, _, hk, _ => hk.elim
theorem ko_self (l : List Nat) : ∀ (a : List Nat) (b : Nat), l.drop b = a → Ko (fun v => (l[v]?).getD 0) b a
  | [], _, _ => trivial
  | k :: r, b, h => by
    have h1 : l[b]? = some k := by
      have := congrArg (fun x => x[0]?) h
      simpa using this
    have h2 : l.drop (b + 1) = r := by
      rw [← List.drop_drop, h]; rfl
    exact ⟨by simp [h1], ko_self l r (b + 1) h2⟩

theorem ins_perm (x : Nd) : ∀ ns : List Nd, (insN x ns).Perm (x :: ns)
  | [] => List.Perm.refl _
  | y :: r => by
    unfold insN
    split
    · exact List.Perm.refl _
    · exact ((ins_perm x r).cons y).trans (List.Perm.swap x y r)
theorem ins_rises (x : Nd) : ∀ ns : List Nd, risesB ns = true → (∀ y ∈ ns, y.id ≠ x.id) → risesB (insN x ns) = true
  | [], _, _ => rfl
  | y :: r, h, hne => by
    have hc := rises_cons.1 h
    unfold insN
    split
    · rename_i hlt
      refine rises_cons.2 ⟨?_, h⟩
      intro z hz
      rcases List.mem_cons.1 hz with rfl | hz
      · exact hlt
      · have := hc.1 z hz
        omega
    · rename_i hlt
      have hy := hne y (List.mem_cons_self ..)
      refine rises_cons.2 ⟨?_, ins_rises x r hc.2 (fun z hz => hne z (List.mem_cons_of_mem _ hz))⟩
      intro z hz
      rcases List.mem_cons.1 ((ins_perm x r).mem_iff.1 hz) with rfl | hz
      · omega
      · exact hc.1 z hz
theorem fold_ins : ∀ (xs ns : List Nd), risesB ns = true → ((ns ++ xs).map Nd.id).Nodup →
    (xs.foldl (fun ns x => insN x ns) ns).Perm (ns ++ xs) ∧ risesB (xs.foldl (fun ns x => insN x ns) ns) = true
  | [], ns, h, _ => ⟨by simp, h⟩
  | x :: xs, ns, h, hd => by
    have hp : ((insN x ns) ++ xs).Perm (ns ++ x :: xs) :=
      ((ins_perm x ns).append_right xs).trans (by
        rw [List.cons_append]
        exact List.perm_middle.symm)
    have hne : ∀ y ∈ ns, y.id ≠ x.id := by
      intro y hy he
      rw [List.map_append, List.map_cons] at hd
      have := (List.nodup_append.1 hd).2.2
      exact this y.id (List.mem_map.2 ⟨y, hy, rfl⟩) x.id (List.mem_cons_self ..) he
    have ih := fold_ins xs (insN x ns) (ins_rises x ns h hne) ((hp.map _).nodup_iff.2 hd)
    rw [List.foldl_cons]
    exact ⟨ih.1.trans hp, ih.2⟩

theorem asg_ok (s u : List UInt8) : Inc ((parK s).size + 1) 0 (asgA s u) ∧ Km (fun v => ((parF s).kinds[v]?).getD 0) (asgA s u) (parF u).kinds := by
  have := al_ok (kind := fun v => ((parF s).kinds[v]?).getD 0) (s := s) (u := u) ((parK u).size + 1) 0 ⟨0, 0, s.length, parK s⟩ ⟨0, 0, u.length, parK u⟩ rfl (by
    have := ko_self (parF s).kinds (parF s).kinds 0 rfl
    simp only [parF, Fo.kinds, List.append_nil] at this ⊢
    exact this)
  refine ⟨?_, ?_⟩
  · have h := this.1
    simp only [Nt.size] at h
    rw [show (parK s).size + 1 = 0 + (1 + (parK s).size) by omega]
    exact h
  · have h := this.2
    simp only [parF, Fo.kinds, List.append_nil] at h ⊢
    exact h
theorem asg_len (s u : List UInt8) : (asgA s u).length = (parK u).size + 1 := by
  rw [(asg_ok s u).2.len, kinds_len]
  simp only [parF, Fo.size]; omega
theorem map_get (l : List Nat) : (List.range' 0 l.length).map (fun i => (((l[i]?).getD 0 : Nat) : Int)) = l.map (fun (i : Nat) => (i : Int)) := by
  apply List.ext_getElem?
  intro i
  simp only [List.getElem?_map]
  by_cases h : i < l.length
  · rw [List.getElem?_range' (by omega), List.getElem?_eq_getElem h]
    simp [List.getElem?_eq_getElem h]
  · rw [List.getElem?_eq_none (by simp; omega), List.getElem?_eq_none (by omega)]
    rfl
theorem ids_ok (s u : List UInt8) : (idsA s u).Nodup ∧ (idsA s u).length = (parK u).size + 1 ∧ (∀ v ∈ idsA s u, v < renX s u) ∧ renX s u ≤ (parK s).size + 1 + ((parK u).size + 1) := by
  obtain ⟨a, b, c, d, e⟩ := fill_ok (asgA s u) ((parK s).size + 1) 0 ((parK s).size + 1) (asg_ok s u).1 (Nat.le_refl _)
  rw [asg_len] at d e
  refine ⟨b, e, ?_, d⟩
  intro v hv
  have := a v hv
  unfold renX
  omega
theorem renL_ids (s u : List UInt8) : (renL s u).map Nd.id = (idsA s u).map (fun (i : Nat) => (i : Int)) := by
  unfold renL
  rw [Fo.flat_ids]
  have h := map_get (idsA s u)
  rw [(ids_ok s u).2.1] at h
  rw [← h]
  have : (parF u).size = (parK u).size + 1 := by simp only [parF, Fo.size]; omega
  rw [this]
  rfl
theorem nodup_cast {l : List Nat} (h : l.Nodup) : (l.map (fun (i : Nat) => (i : Int))).Nodup := by
  unfold List.Nodup at *
  rw [List.pairwise_map]
  exact h.imp (fun h e => h (by omega))
theorem ren_parts (s u : List UInt8) : (renN s u).Perm (renL s u) ∧ risesB (renN s u) = true := by
  have := fold_ins (renL s u) [] rfl (by
    rw [List.nil_append, renL_ids]
    exact nodup_cast (ids_ok s u).1)
  rw [List.nil_append] at this
  exact this
theorem wid_zero (s u : List UInt8) : widA s u 0 = 0 := by
  unfold widA idsA asgA
  rw [alA.eq_def]
  rfl
theorem renN_id {s u : List UInt8} {x : Nd} (h : x ∈ renN s u) : 0 ≤ x.id ∧ x.id < renX s u := by
  have hx : x.id ∈ (renL s u).map Nd.id := List.mem_map.2 ⟨x, (ren_parts s u).1.mem_iff.1 h, rfl⟩
  rw [renL_ids] at hx
  obtain ⟨v, hv, e⟩ := List.mem_map.1 hx
  have := (ids_ok s u).2.2.1 v hv
  omega
theorem ren_may {s u : List UInt8} (hs : s.length ≤ 300) (hu : u.length ≤ 300) : mayB (renN s u) 0 (renX s u) u.length = true := by
  have g := parK_ok u
  have g' := parK_ok s
  have hx := (ids_ok s u).2.2.2
  have := may_flat (w := widA s u) (k := parK u) (ns := renN s u) (len := u.length) (next := (renX s u : Int)) (ren_parts s u).1 (ren_parts s u).2 g.1 (by omega) (by omega) (by omega) (by omega) (fun x hx => renN_id hx)
  rw [wid_zero] at this
  exact this
theorem flat_kinds (w : Nat → Int) : ∀ (f : Fo) (b : Nat), (f.flat w b).map Nd.kd = f.kinds.map (fun (i : Nat) => (i : Int))
  | .nil, _ => rfl
  | .cons kd fr to k r, b => by
    simp only [Fo.flat, Fo.kinds, List.map_cons, List.map_append, flat_kinds w k, flat_kinds w r]
/-- No kind changes. -/
theorem ren_kinds {s u : List UInt8} {x y : Nd} (hx : x ∈ parN s) (hy : y ∈ renN s u) (he : x.id = y.id) : x.kd = y.kd := by
  have hx0 := parN_id hx
  obtain ⟨i, hi⟩ := List.mem_iff_getElem?.1 hx
  have hy' := (ren_parts s u).1.mem_iff.1 hy
  obtain ⟨j, hj⟩ := List.mem_iff_getElem?.1 hy'
  have a1 : ((parN s).map Nd.id)[i]? = some x.id := by rw [List.getElem?_map, hi]; rfl
  have a2 : ((parN s).map Nd.kd)[i]? = some x.kd := by rw [List.getElem?_map, hi]; rfl
  have b1 : ((renL s u).map Nd.id)[j]? = some y.id := by rw [List.getElem?_map, hj]; rfl
  have b2 : ((renL s u).map Nd.kd)[j]? = some y.kd := by rw [List.getElem?_map, hj]; rfl
  rw [parN_ids, List.getElem?_map] at a1
  rw [show (parN s).map Nd.kd = (parF s).kinds.map (fun (i : Nat) => (i : Int)) from flat_kinds _ _ _, List.getElem?_map] at a2
  rw [renL_ids, List.getElem?_map] at b1
  rw [show (renL s u).map Nd.kd = (parF u).kinds.map (fun (i : Nat) => (i : Int)) from flat_kinds _ _ _, List.getElem?_map] at b2
  have hlt : i < (parK s).size + 1 := by
    have := (List.getElem?_eq_some_iff.1 hi).1
    rw [parN_len] at this
    exact this
  rw [List.getElem?_range' hlt] at a1
  simp only [Option.map_some, Option.some.injEq] at a1
  cases hv : (idsA s u)[j]? with
  | none => rw [hv] at b1; simp at b1
  | some v =>
    rw [hv] at b1
    simp only [Option.map_some, Option.some.injEq] at b1
    have hvi : v = i := by omega
    subst hvi
    rcases fill_get _ _ _ _ hv with h | h
    · have hk := km_get (asg_ok s u).2 h
      rw [hk] at b2
      simp only [Option.map_some, Option.some.injEq] at b2
      cases hq : (parF s).kinds[v]? with
      | none => rw [hq] at a2; simp at a2
      | some q =>
        rw [hq] at a2 b2
        simp only [Option.map_some, Option.some.injEq, Option.getD_some] at a2 b2
        omega
    · omega

/-- A step: its kind, id, node's kind, span, children. -/
structure St where
  kd : Int
  id : Int
  nd : Int
  fr : Int
  to : Int
  kids : List Int

/-- Where the root ends; -1: there is none. -/
def endN (ns : List Nd) (root : Int) : Int := match getN ns root with
  | none => -1
  | some x => x.to
def noN : Nd := ⟨0, 0, -1, 0, []⟩
def wasN (a : List Nd) (x : Nd) : Nd := (getN a x.id).getD noN
def dropsL (a b : List Nd) : List St := (a.filter (fun x => (getN b x.id).isNone)).map (fun x => ⟨0, x.id, 0, 0, 0, []⟩)
def makesL (a b : List Nd) : List St := (b.filter (fun x => (getN a x.id).isNone)).map (fun x => ⟨1, x.id, x.kd, 0, 0, []⟩)
def kidsL (a b : List Nd) : List St := (b.filter (fun x => !(x.kids == (wasN a x).kids))).map (fun x => ⟨2, x.id, 0, 0, 0, x.kids⟩)
def spansL (a b : List Nd) : List St := (b.filter (fun x => !(x.fr == (wasN a x).fr) || !(x.to == (wasN a x).to))).map (fun x => ⟨3, x.id, 0, x.fr, x.to, []⟩)
def stepsL (a b : List Nd) : List St := dropsL a b ++ (makesL a b ++ (kidsL a b ++ spansL a b))
def kindsB (a b : List Nd) : Bool := b.all (fun x => match getN a x.id with
  | none => true
  | some y => y.kd == x.kd)
def deltaB (a : List Nd) (ra na : Int) (b : List Nd) (rb nb : Int) : Bool := mayB a ra na (endN a ra) && mayB b rb nb (endN b rb) && (ra == rb) && kindsB a b

def idB (i : Int) : Bool := decide (0 ≤ i) && decide (i < 16777216)
def stepMay (s : St) : Bool := idB s.id && (
  (s.kd == 0 && s.nd == 0 && s.fr == 0 && s.to == 0 && s.kids.isEmpty)
  || (s.kd == 1 && decide (0 ≤ s.nd) && decide (s.nd ≤ 7) && s.fr == 0 && s.to == 0 && s.kids.isEmpty)
  || (s.kd == 2 && s.nd == 0 && s.fr == 0 && s.to == 0 && s.kids.all idB && decide (s.kids.length ≤ 2048))
  || (s.kd == 3 && s.nd == 0 && decide (0 ≤ s.fr) && decide (s.fr ≤ s.to) && decide (s.to ≤ 4096) && s.kids.isEmpty))
/-- One step that fits. -/
def actN (s : St) (p : List Nd × Int) : List Nd × Int :=
  if s.kd = 0 then (p.1.filter (fun x => !(x.id == s.id)), p.2)
  else if s.kd = 1 then (insN ⟨s.id, s.nd, 0, 0, []⟩ p.1, max p.2 (s.id + 1))
  else if s.kd = 2 then (p.1.map (fun x => if x.id = s.id then ⟨x.id, x.kd, x.fr, x.to, s.kids⟩ else x), p.2)
  else (p.1.map (fun x => if x.id = s.id then ⟨x.id, x.kd, s.fr, s.to, x.kids⟩ else x), p.2)
def fitsN (s : St) (ns : List Nd) : Bool := stepMay s && ((getN ns s.id).isNone == (s.kd == 1))
def doN : List St → List Nd × Int → Option (List Nd × Int)
  | [], p => some p
  | s :: ss, p => if fitsN s p.1 then doN ss (actN s p) else none
def patchP (ns : List Nd) (root next : Int) (ss : List St) (size : Int) : Option (List Nd × Int) :=
  if mayB ns root next (endN ns root) && decide (ss.length ≤ 8192) then
    match doN ss (ns, next) with
    | none => none
    | some q => if mayB q.1 root q.2 size then some q else none
  else none

/-! What is found behind a step -/

theorem get_none {ns : List Nd} {i : Int} : getN ns i = none ↔ ∀ x ∈ ns, x.id ≠ i := by
  unfold getN
  rw [List.find?_eq_none]
  simp only [beq_iff_eq]
theorem get_perm {a b : List Nd} (hp : a.Perm b) (hn : (a.map Nd.id).Nodup) (i : Int) : getN a i = getN b i := by
  cases h : getN a i with
  | none => rw [get_none] at h; symm; rw [get_none]; exact fun x hx => h x (hp.mem_iff.2 hx)
  | some x =>
    obtain ⟨h1, h2⟩ := get_some h
    have := get_mem ((hp.map _).nodup_iff.1 hn) (hp.mem_iff.1 h1)
    rw [h2] at this
    exact this.symm
theorem get_cons (x : Nd) (ns : List Nd) (i : Int) : getN (x :: ns) i = if x.id = i then some x else getN ns i := by
  unfold getN
  rw [List.find?_cons]
  by_cases h : x.id = i
  · simp [h]
  · simp [h, beq_eq_false_iff_ne.2 h]
/-- Two rows that rise and find the same are the same. -/
theorem rises_ext : ∀ {a b : List Nd}, risesB a = true → risesB b = true → (∀ i, getN a i = getN b i) → a = b
  | [], [], _, _, _ => rfl
  | [], y :: b, _, _, h => by
    have := h y.id
    rw [get_cons] at this
    simp [getN] at this
  | x :: a, [], _, _, h => by
    have := h x.id
    rw [get_cons] at this
    simp [getN] at this
  | x :: a, y :: b, ha, hb, h => by
    obtain ⟨a1, a2⟩ := rises_cons.1 ha
    obtain ⟨b1, b2⟩ := rises_cons.1 hb
    have hx := h x.id
    have hy := h y.id
    rw [get_cons, get_cons, if_pos rfl] at hx
    rw [get_cons, get_cons, if_pos rfl] at hy
    have hxy : x = y := by
      by_cases e : y.id = x.id
      · rw [if_pos e] at hx
        exact Option.some.inj hx
      · rw [if_neg e] at hx
        rw [if_neg (fun e' => e e'.symm)] at hy
        have h1 := b1 x (get_some hx.symm).1
        have h2 := a1 y (get_some hy).1
        omega
    subst hxy
    congr 1
    apply rises_ext a2 b2
    intro i
    have hi := h i
    rw [get_cons, get_cons] at hi
    by_cases e : x.id = i
    · subst e
      have n1 : getN a x.id = none := get_none.2 (fun z hz => by have := a1 z hz; omega)
      have n2 : getN b x.id = none := get_none.2 (fun z hz => by have := b1 z hz; omega)
      rw [n1, n2]
    · rw [if_neg e, if_neg e] at hi
      exact hi
theorem rises_filter (p : Nd → Bool) : ∀ {ns : List Nd}, risesB ns = true → risesB (ns.filter p) = true
  | [], _ => rfl
  | x :: r, h => by
    obtain ⟨h1, h2⟩ := rises_cons.1 h
    rw [List.filter_cons]
    split
    · exact rises_cons.2 ⟨fun y hy => h1 y (List.mem_filter.1 hy).1, rises_filter p h2⟩
    · exact rises_filter p h2
theorem rises_map (f : Nd → Nd) (hf : ∀ x, (f x).id = x.id) : ∀ {ns : List Nd}, risesB ns = true → risesB (ns.map f) = true
  | [], _ => rfl
  | x :: r, h => by
    obtain ⟨h1, h2⟩ := rises_cons.1 h
    rw [List.map_cons]
    refine rises_cons.2 ⟨fun y hy => ?_, rises_map f hf h2⟩
    obtain ⟨z, hz, e⟩ := List.mem_map.1 hy
    have := h1 z hz
    rw [← e, hf, hf]
    exact this
theorem get_map (f : Nd → Nd) (hf : ∀ x, (f x).id = x.id) (i : Int) : ∀ ns : List Nd, getN (ns.map f) i = (getN ns i).map f
  | [] => rfl
  | x :: r => by
    rw [List.map_cons, get_cons, get_cons, hf, get_map f hf i r]
    split <;> rfl
theorem get_filter (j i : Int) : ∀ ns : List Nd, getN (ns.filter (fun x => !(x.id == j))) i = if i = j then none else getN ns i
  | [] => by simp [getN]
  | x :: r => by
    have ih := get_filter j i r
    rw [List.filter_cons, get_cons]
    by_cases h : x.id = j
    · rw [if_neg (by simp [h]), ih]
      by_cases e : i = j
      · rw [if_pos e, if_pos e]
      · rw [if_neg e, if_neg e, if_neg (fun e' => e (by rw [← e', h]))]
    · rw [if_pos (by simp [h]), get_cons, ih]
      by_cases e : i = j
      · rw [if_pos e, if_pos e, if_neg (fun e' => h (by rw [e', e]))]
      · rw [if_neg e, if_neg e]
theorem get_ins {x : Nd} {ns : List Nd} (h : risesB ns = true) (hn : getN ns x.id = none) (i : Int) : getN (insN x ns) i = if i = x.id then some x else getN ns i := by
  have hr := ins_rises x ns h (get_none.1 hn)
  rw [get_perm (ins_perm x ns) (rises_nodup hr), get_cons]
  by_cases e : i = x.id
  · rw [if_pos e, if_pos e.symm]
  · rw [if_neg e, if_neg (fun e' => e e'.symm)]

theorem do_app : ∀ (a b : List St) (p : List Nd × Int), doN (a ++ b) p = (doN a p).bind (doN b)
  | [], _, _ => rfl
  | s :: a, b, p => by
    rw [List.cons_append]
    unfold doN
    split
    · exact do_app a b _
    · rfl
theorem get_filterP (p : Nd → Bool) {i : Int} : ∀ {ns : List Nd}, (ns.map Nd.id).Nodup → getN (ns.filter p) i = (getN ns i).filter p
  | [], _ => rfl
  | x :: r, hn => by
    rw [List.map_cons, List.nodup_cons] at hn
    have ih := get_filterP p (i := i) hn.2
    rw [List.filter_cons, get_cons]
    by_cases e : x.id = i
    · have hr : getN r i = none := get_none.2 (fun y hy he => hn.1 (by rw [e, ← he]; exact List.mem_map.2 ⟨y, hy, rfl⟩))
      rw [if_pos e]
      split
      · rename_i h
        rw [get_cons, if_pos e, Option.filter, if_pos h]
      · rename_i h
        rw [ih, hr, Option.filter, Option.filter, if_neg h]
    · rw [if_neg e]
      split
      · rw [get_cons, if_neg e, ih]
      · exact ih

theorem do_drops : ∀ (xs cur : List Nd) (nx : Int), risesB xs = true → risesB cur = true → (∀ x ∈ xs, (getN cur x.id).isSome = true ∧ idB x.id = true) →
    ∃ cur', doN (xs.map (fun x => ⟨0, x.id, 0, 0, 0, []⟩)) (cur, nx) = some (cur', nx) ∧ risesB cur' = true ∧ ∀ i, getN cur' i = if (getN xs i).isSome = true then none else getN cur i
  | [], cur, nx, _, h, _ => ⟨cur, rfl, h, fun i => by simp [getN]⟩
  | x :: xs, cur, nx, hx, h, hs => by
    obtain ⟨h1, h2⟩ := rises_cons.1 hx
    obtain ⟨s1, s2⟩ := hs x (List.mem_cons_self ..)
    obtain ⟨cur', a, b, c⟩ := do_drops xs (cur.filter (fun y => !(y.id == x.id))) nx h2 (rises_filter _ h) (fun y hy => by
      have := hs y (List.mem_cons_of_mem _ hy)
      have hlt := h1 y hy
      rw [get_filter, if_neg (by omega)]
      exact this)
    refine ⟨cur', ?_, b, ?_⟩
    · rw [List.map_cons]
      unfold doN
      have hf : fitsN ⟨0, x.id, 0, 0, 0, []⟩ cur = true := by
        have : (getN cur x.id).isNone = false := by rw [← Option.not_isSome, s1]; rfl
        simp [fitsN, stepMay, s2, this]
      rw [if_pos hf]
      exact a
    · intro i
      rw [c i, get_cons, get_filter]
      by_cases e : x.id = i
      · subst e
        simp
      · have e2 : ¬ i = x.id := fun e' => e e'.symm
        rw [if_neg e]
        simp only [if_neg e2]
theorem do_makes : ∀ (xs cur : List Nd) (nx : Int), risesB xs = true → risesB cur = true → (∀ x ∈ xs, getN cur x.id = none ∧ idB x.id = true ∧ 0 ≤ x.kd ∧ x.kd ≤ 7) →
    ∃ cur', doN (xs.map (fun x => ⟨1, x.id, x.kd, 0, 0, []⟩)) (cur, nx) = some (cur', xs.foldl (fun m x => max m (x.id + 1)) nx) ∧ risesB cur' = true ∧
      ∀ i, getN cur' i = match getN xs i with
        | some x => some ⟨x.id, x.kd, 0, 0, []⟩
        | none => getN cur i
  | [], cur, nx, _, h, _ => ⟨cur, rfl, h, fun i => by simp [getN]⟩
  | x :: xs, cur, nx, hx, h, hs => by
    obtain ⟨h1, h2⟩ := rises_cons.1 hx
    obtain ⟨s1, s2, s3, s4⟩ := hs x (List.mem_cons_self ..)
    have hins := ins_rises ⟨x.id, x.kd, 0, 0, []⟩ cur h (get_none.1 s1)
    have hget := fun i => get_ins (x := ⟨x.id, x.kd, 0, 0, []⟩) h s1 i
    obtain ⟨cur', a, b, c⟩ := do_makes xs (insN ⟨x.id, x.kd, 0, 0, []⟩ cur) (max nx (x.id + 1)) h2 hins (fun y hy => by
      have := hs y (List.mem_cons_of_mem _ hy)
      have hlt := h1 y hy
      rw [hget, if_neg (by simp only; omega)]
      exact this)
    refine ⟨cur', ?_, b, ?_⟩
    · rw [List.map_cons, List.foldl_cons]
      unfold doN
      have hf : fitsN ⟨1, x.id, x.kd, 0, 0, []⟩ cur = true := by
        simp [fitsN, stepMay, s1, s2, s3, s4]
      rw [if_pos hf]
      exact a
    · intro i
      rw [c i, get_cons, hget]
      by_cases e : x.id = i
      · subst e
        have hn : getN xs x.id = none := get_none.2 (fun y hy => by have := h1 y hy; omega)
        rw [hn]
        simp
      · rw [if_neg e, if_neg (fun e' => e e'.symm)]
theorem do_kids : ∀ (xs cur : List Nd) (nx : Int), risesB xs = true → risesB cur = true → (∀ x ∈ xs, (getN cur x.id).isSome = true ∧ idB x.id = true ∧ x.kids.all idB = true ∧ x.kids.length ≤ 2048) →
    ∃ cur', doN (xs.map (fun x => ⟨2, x.id, 0, 0, 0, x.kids⟩)) (cur, nx) = some (cur', nx) ∧ risesB cur' = true ∧
      ∀ i, getN cur' i = match getN xs i with
        | some x => (getN cur i).map (fun y => ⟨y.id, y.kd, y.fr, y.to, x.kids⟩)
        | none => getN cur i
  | [], cur, nx, _, h, _ => ⟨cur, rfl, h, fun i => by simp [getN]⟩
  | x :: xs, cur, nx, hx, h, hs => by
    obtain ⟨h1, h2⟩ := rises_cons.1 hx
    obtain ⟨s1, s2, s3, s4⟩ := hs x (List.mem_cons_self ..)
    have hid : ∀ y : Nd, (if y.id = x.id then (⟨y.id, y.kd, y.fr, y.to, x.kids⟩ : Nd) else y).id = y.id := fun y => by split <;> rfl
    have hget := fun i => get_map (fun y : Nd => if y.id = x.id then (⟨y.id, y.kd, y.fr, y.to, x.kids⟩ : Nd) else y) hid i cur
    obtain ⟨cur', a, b, c⟩ := do_kids xs (cur.map (fun y : Nd => if y.id = x.id then (⟨y.id, y.kd, y.fr, y.to, x.kids⟩ : Nd) else y)) nx h2 (rises_map _ hid h) (fun y hy => by
      have := hs y (List.mem_cons_of_mem _ hy)
      rw [hget, Option.isSome_map]
      exact this)
    refine ⟨cur', ?_, b, ?_⟩
    · rw [List.map_cons]
      unfold doN
      have hf : fitsN ⟨2, x.id, 0, 0, 0, x.kids⟩ cur = true := by
        have : (getN cur x.id).isNone = false := by rw [← Option.not_isSome, s1]; rfl
        simp only [fitsN, stepMay, s2, s3, this, decide_eq_true s4]
        rfl
      rw [if_pos hf]
      exact a
    · intro i
      rw [c i, get_cons, hget]
      by_cases e : x.id = i
      · subst e
        have hn : getN xs x.id = none := get_none.2 (fun y hy => by have := h1 y hy; omega)
        rw [hn, if_pos rfl]
        dsimp only
        cases hc : getN cur x.id with
        | none => rfl
        | some y =>
          simp only [Option.map_some]
          rw [if_pos (get_some hc).2]
      · rw [if_neg e]
        have hc : (getN cur i).map (fun y : Nd => if y.id = x.id then (⟨y.id, y.kd, y.fr, y.to, x.kids⟩ : Nd) else y) = getN cur i := by
          cases hc : getN cur i with
          | none => rfl
          | some y =>
            simp only [Option.map_some]
            rw [if_neg (fun e' => e (by rw [← e', (get_some hc).2]))]
        rw [hc]
theorem do_spans : ∀ (xs cur : List Nd) (nx : Int), risesB xs = true → risesB cur = true → (∀ x ∈ xs, (getN cur x.id).isSome = true ∧ idB x.id = true ∧ 0 ≤ x.fr ∧ x.fr ≤ x.to ∧ x.to ≤ 4096) →
    ∃ cur', doN (xs.map (fun x => ⟨3, x.id, 0, x.fr, x.to, []⟩)) (cur, nx) = some (cur', nx) ∧ risesB cur' = true ∧
      ∀ i, getN cur' i = match getN xs i with
        | some x => (getN cur i).map (fun y => ⟨y.id, y.kd, x.fr, x.to, y.kids⟩)
        | none => getN cur i
  | [], cur, nx, _, h, _ => ⟨cur, rfl, h, fun i => by simp [getN]⟩
  | x :: xs, cur, nx, hx, h, hs => by
    obtain ⟨h1, h2⟩ := rises_cons.1 hx
    obtain ⟨s1, s2, s3, s4, s5⟩ := hs x (List.mem_cons_self ..)
    have hid : ∀ y : Nd, (if y.id = x.id then (⟨y.id, y.kd, x.fr, x.to, y.kids⟩ : Nd) else y).id = y.id := fun y => by split <;> rfl
    have hget := fun i => get_map (fun y : Nd => if y.id = x.id then (⟨y.id, y.kd, x.fr, x.to, y.kids⟩ : Nd) else y) hid i cur
    obtain ⟨cur', a, b, c⟩ := do_spans xs (cur.map (fun y : Nd => if y.id = x.id then (⟨y.id, y.kd, x.fr, x.to, y.kids⟩ : Nd) else y)) nx h2 (rises_map _ hid h) (fun y hy => by
      have := hs y (List.mem_cons_of_mem _ hy)
      rw [hget, Option.isSome_map]
      exact this)
    refine ⟨cur', ?_, b, ?_⟩
    · rw [List.map_cons]
      unfold doN
      have hf : fitsN ⟨3, x.id, 0, x.fr, x.to, []⟩ cur = true := by
        have : (getN cur x.id).isNone = false := by rw [← Option.not_isSome, s1]; rfl
        simp only [fitsN, stepMay, s2, this, decide_eq_true s3, decide_eq_true s4, decide_eq_true s5]
        rfl
      rw [if_pos hf]
      exact a
    · intro i
      rw [c i, get_cons, hget]
      by_cases e : x.id = i
      · subst e
        have hn : getN xs x.id = none := get_none.2 (fun y hy => by have := h1 y hy; omega)
        rw [hn, if_pos rfl]
        dsimp only
        cases hc : getN cur x.id with
        | none => rfl
        | some y =>
          simp only [Option.map_some]
          rw [if_pos (get_some hc).2]
      · rw [if_neg e]
        have hc : (getN cur i).map (fun y : Nd => if y.id = x.id then (⟨y.id, y.kd, x.fr, x.to, y.kids⟩ : Nd) else y) = getN cur i := by
          cases hc : getN cur i with
          | none => rfl
          | some y =>
            simp only [Option.map_some]
            rw [if_neg (fun e' => e (by rw [← e', (get_some hc).2]))]
        rw [hc]

/-- What is asked of a node of either tree. -/
def FitN (x : Nd) : Prop := idB x.id = true ∧ 0 ≤ x.kd ∧ x.kd ≤ 7 ∧ 0 ≤ x.fr ∧ x.fr ≤ x.to ∧ x.to ≤ 4096 ∧ x.kids.all idB = true ∧ x.kids.length ≤ 2048

theorem steps_lead {a b : List Nd} (na : Int) (ha : risesB a = true) (hb : risesB b = true) (hk : kindsB a b = true) (fa : ∀ x ∈ a, FitN x) (fb : ∀ x ∈ b, FitN x) :
    doN (stepsL a b) (a, na) = some (b, (b.filter (fun x => (getN a x.id).isNone)).foldl (fun m x => max m (x.id + 1)) na) := by
  have nda := rises_nodup ha
  have ndb := rises_nodup hb
  have hkk : ∀ x ∈ b, ∀ y, getN a x.id = some y → y.kd = x.kd := by
    intro x hx y hy
    have := List.all_eq_true.1 hk x hx
    rw [hy] at this
    simpa using this
  unfold stepsL dropsL makesL kidsL spansL
  obtain ⟨c1, d1, r1, g1⟩ := do_drops (a.filter (fun x => (getN b x.id).isNone)) a na (rises_filter _ ha) ha (fun x hx => by
    have hx' := (List.mem_filter.1 hx).1
    rw [get_mem nda hx']
    exact ⟨rfl, (fa x hx').1⟩)
  have g1' : ∀ i, getN c1 i = if (getN b i).isNone = true then none else getN a i := by
    intro i
    rw [g1, get_filterP _ nda]
    cases hA : getN a i with
    | none => simp
    | some y =>
      have := (get_some hA).2
      simp only [Option.filter, this]
      cases hB : getN b i <;> simp
  obtain ⟨c2, d2, r2, g2⟩ := do_makes (b.filter (fun x => (getN a x.id).isNone)) c1 na (rises_filter _ hb) r1 (fun x hx => by
    obtain ⟨hx', hn⟩ := List.mem_filter.1 hx
    obtain ⟨f1, f2, f3, _⟩ := fb x hx'
    rw [g1', get_mem ndb hx']
    refine ⟨?_, f1, f2, f3⟩
    simpa using hn)
  have g2' : ∀ i, getN c2 i = match getN b i with
      | none => none
      | some x => some (match getN a i with
        | none => ⟨x.id, x.kd, 0, 0, []⟩
        | some y => y) := by
    intro i
    rw [g2, get_filterP _ ndb, g1']
    cases hB : getN b i with
    | none => simp
    | some x =>
      have := (get_some hB).2
      simp only [Option.filter, this]
      cases hA : getN a i <;> simp [this]
  have some2 : ∀ x ∈ b, (getN c2 x.id).isSome = true := by
    intro x hx
    rw [g2', get_mem ndb hx]
    rfl
  obtain ⟨c3, d3, r3, g3⟩ := do_kids (b.filter (fun x => !(x.kids == (wasN a x).kids))) c2 ((b.filter (fun x => (getN a x.id).isNone)).foldl (fun m x => max m (x.id + 1)) na) (rises_filter _ hb) r2 (fun x hx => by
    have hx' := (List.mem_filter.1 hx).1
    obtain ⟨f1, _, _, _, _, _, f7, f8⟩ := fb x hx'
    exact ⟨some2 x hx', f1, f7, f8⟩)
  have some3 : ∀ x ∈ b, (getN c3 x.id).isSome = true := by
    intro x hx
    rw [g3]
    split
    · rw [Option.isSome_map]; exact some2 x hx
    · exact some2 x hx
  obtain ⟨c4, d4, r4, g4⟩ := do_spans (b.filter (fun x => !(x.fr == (wasN a x).fr) || !(x.to == (wasN a x).to))) c3 ((b.filter (fun x => (getN a x.id).isNone)).foldl (fun m x => max m (x.id + 1)) na) (rises_filter _ hb) r3 (fun x hx => by
    have hx' := (List.mem_filter.1 hx).1
    obtain ⟨f1, _, _, f4, f5, f6, _, _⟩ := fb x hx'
    exact ⟨some3 x hx', f1, f4, f5, f6⟩)
  rw [do_app, d1, Option.bind_some, do_app, d2, Option.bind_some, do_app, d3, Option.bind_some, d4]
  congr 2
  apply rises_ext r4 hb
  intro i
  rw [g4, get_filterP _ ndb, g3, get_filterP _ ndb, g2']
  cases hB : getN b i with
  | none => simp
  | some x =>
    obtain ⟨hxb, hxi⟩ := get_some hB
    have fx := fb x hxb
    simp only [Option.filter]
    cases hA : getN a i with
    | none =>
      obtain ⟨i1, k1, f1, t1, l1⟩ := x
      have hw : wasN a ⟨i1, k1, f1, t1, l1⟩ = noN := by unfold wasN; rw [hxi, hA]; rfl
      simp only [hw]
      have hs : (!(f1 == noN.fr) || !(t1 == noN.to)) = true := by
        have hfr : f1 ≠ -1 := by have := fx.2.2.2.1; simp only at this; omega
        simp [noN, hfr]
      simp only [hs, if_true]
      by_cases hl : l1 = []
      · subst hl
        simp [noN]
      · have hl2 : (l1 == noN.kids) = false := beq_eq_false_iff_ne.2 hl
        simp [hl2]
    | some y =>
      have hw : wasN a x = y := by unfold wasN; rw [hxi, hA]; rfl
      have hyi := (get_some hA).2
      have hyk := hkk x hxb y (by rw [hxi]; exact hA)
      simp only [hw]
      by_cases hk : x.kids = y.kids <;> by_cases hf : x.fr = y.fr <;> by_cases ht : x.to = y.to <;> simp [hk, hf, ht]
      all_goals (obtain ⟨i1, k1, f1, t1, l1⟩ := x; obtain ⟨i2, k2, f2, t2, l2⟩ := y; simp_all)

/-- Unlike ones that are all among others are not more than those. -/
theorem pigeon {α : Type} [BEq α] [LawfulBEq α] : ∀ (l m : List α), l.Nodup → (∀ x ∈ l, x ∈ m) → l.length ≤ m.length
  | [], _, _, _ => Nat.zero_le _
  | x :: l, m, hn, hs => by
    rw [List.nodup_cons] at hn
    have hx := hs x (List.mem_cons_self ..)
    have ih := pigeon l (m.erase x) hn.2 (fun y hy => by
      have hne : y ≠ x := fun e => hn.1 (e ▸ hy)
      exact (List.mem_erase_of_ne hne).2 (hs y (List.mem_cons_of_mem _ hy)))
    rw [List.length_erase_of_mem hx] at ih
    have := List.length_pos_of_mem hx
    rw [List.length_cons]
    omega
theorem kids_found {ns : List Nd} {to : Int} : ∀ {l : List Int} {lo : Int}, kidsOk ns to lo l = true → ∀ c ∈ l, ∃ y, getN ns c = some y ∧ y.kd ≠ 0
  | [], _, _ => by intro c hc; cases hc
  | d :: l, lo, h => by
    unfold kidsOk at h
    intro c hc
    split at h
    · cases h
    · rename_i y hy
      simp only [Bool.and_eq_true, decide_eq_true_eq, Bool.not_eq_true', beq_eq_false_iff_ne] at h
      rcases List.mem_cons.1 hc with rfl | hc
      · exact ⟨y, hy, h.1.2⟩
      · exact kids_found h.2 c hc
theorem count_kids {ns : List Nd} {x : Nd} (h : x ∈ ns) (v : Int) : x.kids.count v ≤ (allKids ns).count v := by
  unfold allKids
  induction ns with
  | nil => cases h
  | cons y r ih =>
    rw [List.flatMap_cons, List.count_append]
    rcases List.mem_cons.1 h with rfl | h
    · omega
    · have := ih h
      omega
theorem may_fit {ns : List Nd} {root next size : Int} (h : mayB ns root next size = true) : risesB ns = true ∧ ∀ x ∈ ns, FitN x := by
  unfold mayB at h
  simp only [Bool.and_eq_true, decide_eq_true_eq, List.all_eq_true, beq_iff_eq] at h
  obtain ⟨⟨⟨⟨⟨⟨⟨⟨⟨⟨⟨h1, h2⟩, h3⟩, h4⟩, h5⟩, h6⟩, h7⟩, h8⟩, h9⟩, h10⟩, h11⟩, h12⟩ := h
  refine ⟨h8, fun x hx => ?_⟩
  have hn := h7 x hx
  simp only [nodeOk, Bool.and_eq_true, decide_eq_true_eq] at hn
  obtain ⟨⟨⟨⟨⟨⟨⟨⟨n1, n2⟩, n3⟩, n4⟩, n5⟩, n6⟩, n7⟩, _⟩, _⟩ := hn
  have hk := kids_found (h9 x hx)
  have hid : ∀ y ∈ ns, idB y.id = true := by
    intro y hy
    have hn := h7 y hy
    simp only [nodeOk, Bool.and_eq_true, decide_eq_true_eq] at hn
    obtain ⟨⟨⟨⟨⟨⟨⟨⟨n1, n2⟩, _⟩, _⟩, _⟩, _⟩, _⟩, _⟩, _⟩ := hn
    unfold idB
    simp only [Bool.and_eq_true, decide_eq_true_eq]
    omega
  refine ⟨hid x hx, n3, n4, n5, n6, by omega, ?_, ?_⟩
  · rw [List.all_eq_true]
    intro c hc
    obtain ⟨y, hy, _⟩ := hk c hc
    obtain ⟨y1, y2⟩ := get_some hy
    rw [← y2]
    exact hid y y1
  · have hnd : x.kids.Nodup := by
      rw [List.nodup_iff_count]
      intro v
      by_cases hv : v ∈ x.kids
      · obtain ⟨y, hy, hy0⟩ := hk v hv
        obtain ⟨y1, y2⟩ := get_some hy
        have := h11 y y1
        simp only [Bool.or_eq_true, beq_iff_eq] at this
        rcases this with this | this
        · exact absurd this hy0
        · have hc := count_kids hx v
          rw [y2] at this
          omega
      · rw [List.count_eq_zero.2 hv]; omega
    have := pigeon x.kids (ns.map Nd.id) hnd (fun c hc => by
      obtain ⟨y, hy, _⟩ := hk c hc
      obtain ⟨y1, y2⟩ := get_some hy
      exact List.mem_map.2 ⟨y, y1, y2⟩)
    rw [List.length_map] at this
    omega
theorem may_len {ns : List Nd} {root next size : Int} (h : mayB ns root next size = true) : ns.length ≤ 2048 := by
  unfold mayB at h
  simp only [Bool.and_eq_true, decide_eq_true_eq] at h
  exact h.1.1.1.1.1.1.1.1.1.1.2

theorem filter_len (p : Nd → Bool) : ∀ l : List Nd, l.length = (l.filter p).length + (l.filter (fun x => !p x)).length
  | [] => rfl
  | x :: l => by
    have ih := filter_len p l
    simp only [List.filter_cons]
    cases p x <;> simp <;> omega
/-- How many stand in both, either way. -/
theorem both_len {a b : List Nd} (ha : (a.map Nd.id).Nodup) (hb : (b.map Nd.id).Nodup) : b.length + (dropsL a b).length = a.length + (makesL a b).length := by
  have key : ∀ {a b : List Nd}, (a.map Nd.id).Nodup → (a.filter (fun x => !(getN b x.id).isNone)).length ≤ (b.filter (fun x => !(getN a x.id).isNone)).length := by
    intro a b ha
    have h1 : ((a.filter (fun x => !(getN b x.id).isNone)).map Nd.id).Nodup := ha.sublist (List.filter_sublist.map _)
    have := pigeon _ ((b.filter (fun x => !(getN a x.id).isNone)).map Nd.id) h1 (fun v hv => by
      obtain ⟨x, hx, e⟩ := List.mem_map.1 hv
      obtain ⟨hx1, hx2⟩ := List.mem_filter.1 hx
      cases hy : getN b x.id with
      | none => rw [hy] at hx2; cases hx2
      | some y =>
        obtain ⟨y1, y2⟩ := get_some hy
        refine List.mem_map.2 ⟨y, List.mem_filter.2 ⟨y1, ?_⟩, by rw [y2, e]⟩
        rw [y2, get_mem ha hx1]
        rfl)
    rw [List.length_map, List.length_map] at this
    exact this
  have h1 := key (b := b) ha
  have h2 := key (b := a) hb
  have e1 := filter_len (fun x => (getN b x.id).isNone) a
  have e2 := filter_len (fun x => (getN a x.id).isNone) b
  unfold dropsL makesL
  rw [List.length_map, List.length_map]
  omega

theorem par_root (s : List UInt8) : ∃ k, getN (parN s) 0 = some ⟨0, 0, 0, s.length, k⟩ := ⟨(parK s).ids (fun i => (i : Int)) 1, rfl⟩
theorem par_end (s : List UInt8) : endN (parN s) 0 = s.length := by
  obtain ⟨k, h⟩ := par_root s
  unfold endN
  rw [h]
theorem ren_end (s u : List UInt8) : endN (renN s u) 0 = u.length := by
  have hp := ren_parts s u
  have hm : (⟨widA s u 0, 0, 0, u.length, (parK u).ids (widA s u) 1⟩ : Nd) ∈ renN s u := by
    rw [hp.1.mem_iff]
    exact List.mem_cons_self ..
  have := get_mem (rises_nodup hp.2) hm
  simp only [wid_zero] at this
  unfold endN
  rw [this]
theorem ren_kindsB (s u : List UInt8) : kindsB (parN s) (renN s u) = true ∧ kindsB (renN s u) (parN s) = true := by
  unfold kindsB
  constructor
  · rw [List.all_eq_true]
    intro y hy
    split
    · rfl
    · rename_i x hx
      obtain ⟨h1, h2⟩ := get_some hx
      rw [beq_iff_eq]
      exact ren_kinds h1 hy h2
  · rw [List.all_eq_true]
    intro x hx
    split
    · rfl
    · rename_i y hy
      obtain ⟨h1, h2⟩ := get_some hy
      rw [beq_iff_eq]
      exact (ren_kinds hx h1 h2.symm).symm
/-- Both ways are told. -/
theorem ren_delta {s u : List UInt8} (hs : s.length ≤ 300) (hu : u.length ≤ 300) :
    deltaB (parN s) 0 ((parK s).size + 1) (renN s u) 0 (renX s u) = true ∧ deltaB (renN s u) 0 (renX s u) (parN s) 0 ((parK s).size + 1) = true := by
  unfold deltaB
  rw [par_end, ren_end, par_may hs, ren_may hs hu, (ren_kindsB s u).1, (ren_kindsB s u).2]
  exact ⟨rfl, rfl⟩

theorem fold_le (M : Int) : ∀ (xs : List Nd) (n : Int), n ≤ M → (∀ x ∈ xs, x.id + 1 ≤ M) → xs.foldl (fun m x => max m (x.id + 1)) n ≤ M
  | [], _, h, _ => h
  | x :: xs, n, h, hs => by
    rw [List.foldl_cons]
    exact fold_le M xs _ (Int.max_le.2 ⟨h, hs x (List.mem_cons_self ..)⟩) (fun y hy => hs y (List.mem_cons_of_mem _ hy))
theorem fold_ge : ∀ (xs : List Nd) (n : Int), n ≤ xs.foldl (fun m x => max m (x.id + 1)) n ∧ ∀ x ∈ xs, x.id + 1 ≤ xs.foldl (fun m x => max m (x.id + 1)) n
  | [], n => ⟨Int.le_refl _, by intro x hx; cases hx⟩
  | y :: xs, n => by
    have ih := fold_ge xs (max n (y.id + 1))
    rw [List.foldl_cons]
    refine ⟨Int.le_trans (Int.le_max_left ..) ih.1, ?_⟩
    intro x hx
    rcases List.mem_cons.1 hx with rfl | hx
    · exact Int.le_trans (Int.le_max_right ..) ih.1
    · exact ih.2 x hx
theorem fill_last : ∀ (r : List (Option Nat)) (n : Nat), n ≤ nextA n r ∧ (n < nextA n r → nextA n r - 1 ∈ fillA n r)
  | [], n => ⟨Nat.le_refl _, fun h => by simp [nextA] at h⟩
  | none :: r, n => by
    have ih := fill_last r (n + 1)
    unfold nextA fillA
    refine ⟨by omega, fun _ => ?_⟩
    by_cases h : n + 1 < nextA (n + 1) r
    · exact List.mem_cons_of_mem _ (ih.2 h)
    · have e : nextA (n + 1) r - 1 = n := by omega
      rw [e]
      exact List.mem_cons_self ..
  | some v :: r, n => by
    have ih := fill_last r n
    unfold nextA fillA
    exact ⟨ih.1, fun h => List.mem_cons_of_mem _ (ih.2 h)⟩
theorem par_has {s : List UInt8} {i : Int} (h0 : 0 ≤ i) (h1 : i < (parK s).size + 1) : (getN (parN s) i).isNone = false := by
  cases h : getN (parN s) i with
  | some _ => rfl
  | none =>
    rw [get_none] at h
    have hm : i ∈ (parN s).map Nd.id := by
      rw [parN_ids]
      refine List.mem_map.2 ⟨i.toNat, List.mem_range'_1.2 (by omega), by omega⟩
    obtain ⟨x, hx, e⟩ := List.mem_map.1 hm
    exact absurd e (h x hx)
theorem ren_next (s u : List UInt8) : ((renN s u).filter (fun x => (getN (parN s) x.id).isNone)).foldl (fun m x => max m (x.id + 1)) (((parK s).size : Int) + 1) = renX s u := by
  have hf := fill_last (asgA s u) ((parK s).size + 1)
  have hle : (parK s).size + 1 ≤ renX s u := hf.1
  apply Int.le_antisymm
  · refine fold_le _ _ _ (by omega) ?_
    intro x hx
    have := renN_id (List.mem_filter.1 hx).1
    omega
  · by_cases h : (parK s).size + 1 < renX s u
    · have hm : ((renX s u - 1 : Nat) : Int) ∈ (renL s u).map Nd.id := by
        rw [renL_ids]
        exact List.mem_map.2 ⟨_, hf.2 h, rfl⟩
      obtain ⟨x, hx, e⟩ := List.mem_map.1 hm
      have hx' : x ∈ renN s u := (ren_parts s u).1.mem_iff.2 hx
      have hg : (getN (parN s) x.id).isNone = true := by
        cases hy : getN (parN s) x.id with
        | none => rfl
        | some y =>
          obtain ⟨y1, y2⟩ := get_some hy
          have := parN_id y1
          omega
      have := (fold_ge ((renN s u).filter (fun x => (getN (parN s) x.id).isNone)) (((parK s).size : Int) + 1)).2 x (List.mem_filter.2 ⟨hx', hg⟩)
      omega
    · have := (fold_ge ((renN s u).filter (fun x => (getN (parN s) x.id).isNone)) (((parK s).size : Int) + 1)).1
      omega
theorem steps_len (a b : List Nd) : (stepsL a b).length ≤ a.length + 3 * b.length := by
  unfold stepsL dropsL makesL kidsL spansL
  simp only [List.length_append, List.length_map]
  have h1 := List.length_filter_le (fun x => (getN b x.id).isNone) a
  have h2 := List.length_filter_le (fun x => (getN a x.id).isNone) b
  have h3 := List.length_filter_le (fun x : Nd => !(x.kids == (wasN a x).kids)) b
  have h4 := List.length_filter_le (fun x : Nd => !(x.fr == (wasN a x).fr) || !(x.to == (wasN a x).to)) b
  omega
/-- The steps lead there. -/
theorem ren_leads {s u : List UInt8} (hs : s.length ≤ 300) (hu : u.length ≤ 300) :
    patchP (parN s) 0 ((parK s).size + 1) (stepsL (parN s) (renN s u)) u.length = some (renN s u, (renX s u : Int)) := by
  have fa := may_fit (par_may hs)
  have fb := may_fit (ren_may hs hu)
  have hl := steps_len (parN s) (renN s u)
  have h1 := may_len (par_may hs)
  have h2 := may_len (ren_may hs hu)
  unfold patchP
  rw [par_end, par_may hs, steps_lead _ fa.1 fb.1 (ren_kindsB s u).1 fa.2 fb.2, ren_next]
  dsimp only
  rw [ren_may hs hu, if_pos rfl, if_pos]
  simp only [Bool.true_and, decide_eq_true_eq]
  omega
/-- A second time they fit only where nothing comes or goes. -/
theorem twice_no {a b : List Nd} (hb : risesB b = true) (n : Int) (h : dropsL a b ≠ [] ∨ makesL a b ≠ []) : doN (stepsL a b) (b, n) = none := by
  have ndb := rises_nodup hb
  unfold stepsL
  cases hd : dropsL a b with
  | cons d ds =>
    have hm : d ∈ dropsL a b := by rw [hd]; exact List.mem_cons_self ..
    unfold dropsL at hm
    obtain ⟨x, hx, e⟩ := List.mem_map.1 hm
    have hg := (List.mem_filter.1 hx).2
    rw [List.cons_append]
    unfold doN
    rw [if_neg]
    subst e
    simp [fitsN, hg]
  | nil =>
    cases hk : makesL a b with
    | nil => rcases h with h | h <;> contradiction
    | cons d ds =>
      have hm : d ∈ makesL a b := by rw [hk]; exact List.mem_cons_self ..
      unfold makesL at hm
      obtain ⟨x, hx, e⟩ := List.mem_map.1 hm
      have hg := get_mem ndb (List.mem_filter.1 hx).1
      rw [List.nil_append, List.cons_append]
      unfold doN
      rw [if_neg]
      subst e
      simp [fitsN, hg]
theorem twice_yes {a b : List Nd} (hb : risesB b = true) (fb : ∀ x ∈ b, FitN x) (n : Int) (h1 : dropsL a b = []) (h2 : makesL a b = []) : doN (stepsL a b) (b, n) = some (b, n) := by
  have ndb := rises_nodup hb
  unfold stepsL
  rw [h1, h2, List.nil_append, List.nil_append]
  unfold kidsL spansL
  obtain ⟨c3, d3, r3, g3⟩ := do_kids (b.filter (fun x => !(x.kids == (wasN a x).kids))) b n (rises_filter _ hb) hb (fun x hx => by
    have hx' := (List.mem_filter.1 hx).1
    obtain ⟨f1, _, _, _, _, _, f7, f8⟩ := fb x hx'
    rw [get_mem ndb hx']
    exact ⟨rfl, f1, f7, f8⟩)
  have e3 : c3 = b := rises_ext r3 hb (fun i => by
    rw [g3, get_filterP _ ndb]
    cases hB : getN b i with
    | none => simp
    | some x =>
      simp only [Option.filter]
      split
      · rename_i y h
        split at h
        · obtain rfl := Option.some.inj h
          rfl
        · cases h
      · rfl)
  subst e3
  obtain ⟨c4, d4, r4, g4⟩ := do_spans (c3.filter (fun x => !(x.fr == (wasN a x).fr) || !(x.to == (wasN a x).to))) c3 n (rises_filter _ hb) hb (fun x hx => by
    have hx' := (List.mem_filter.1 hx).1
    obtain ⟨f1, _, _, f4, f5, f6, _, _⟩ := fb x hx'
    rw [get_mem ndb hx']
    exact ⟨rfl, f1, f4, f5, f6⟩)
  have e4 : c4 = c3 := rises_ext r4 hb (fun i => by
    rw [g4, get_filterP _ ndb]
    cases hB : getN c3 i with
    | none => simp
    | some x =>
      simp only [Option.filter]
      split
      · rename_i y h
        split at h
        · obtain rfl := Option.some.inj h
          rfl
        · cases h
      · rfl)
  rw [do_app, d3, Option.bind_some, d4, e4]

end Go.Proofs.YtjmfjlffcopnnaaDoor
