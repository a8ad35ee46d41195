/-
  CoB, Sp1, Spt, Sp2, PkM, in one text. Conditions: as each theorem's premises say.
-/
import Derived.Test.YtjmfjlffcopnnaaGreatDoorPF17
import Derived.Test.YtjmfjlffcopnnaaGreatDoorPF11
import Derived.Test.YtjmfjlffcopnnaaGreatDoorPF00
namespace Go.Proofs.YtjmfjlffcopnnaaGreatDoor
open Go.RowKit

/-- A node with its children's row put to the nodes. -/
theorem OwnT.pushK {W w' : World} {base : Nat} {nv nv' : Value} {vs : List Nv} {ns : List Nd} (h : OwnT W base nv vs ns) (hg : W.grownBy w' nv.ownBlock) (v : Nv) (n : Nd) (hv : Fits W base v n) (hap : ∀ (i : Nat) x g, vs[i]? = some x → x.kv.ownBlock = some g → v.kv.ownBlock ≠ some g) (ho : lyN.Own w' base nv' (vs ++ [v])) : OwnT w' base nv' (vs ++ [v]) (ns ++ [n]) := by
  have keep : ∀ (x : Nv) (m : Nd), Fits W base x m → Fits w' base x m := fun x m hf => by
    obtain ⟨a, b, c, d, e⟩ := hf
    exact ⟨a, b, c, d, e.kept hg (fun k hk e0 => by
      obtain ⟨c1, h1⟩ := h.row.obj e0
      obtain ⟨c2, h2⟩ := e.obj hk
      exact type_ne h1 h2 (by decide) rfl)⟩
  have part : ∀ (i : Nat) x, (vs ++ [v])[i]? = some x → vs[i]? = some x ∨ (i = vs.length ∧ x = v) := fun i x hx => by
    by_cases hi : i < vs.length
    · rw [List.getElem?_append_left hi] at hx; exact .inl hx
    · have hi2 : i = vs.length := by have := (List.getElem?_eq_some_iff.1 hx).1; simp at this; omega
      subst hi2
      rw [List.getElem?_append_right (Nat.le_refl _), Nat.sub_self] at hx
      exact .inr ⟨rfl, by simpa using hx.symm⟩
  have hl := h.len
  refine ⟨ho, by rw [List.length_append, List.length_append, hl]; rfl, fun i x m hx hm => ?_, fun i j x y g hx hy hij hk => ?_⟩
  · rcases part i x hx with hx | ⟨rfl, rfl⟩
    · have := (List.getElem?_eq_some_iff.1 hx).1
      rw [List.getElem?_append_left (by omega)] at hm
      exact keep x m (h.fit i x m hx hm)
    · rw [List.getElem?_append_right (by omega), hl, Nat.sub_self] at hm
      simp at hm
      subst hm
      exact keep _ _ hv
  · rcases part i x hx with hx2 | ⟨ei, ex⟩
    · rcases part j y hy with hy2 | ⟨ej, ey⟩
      · exact h.apart i j x y g hx2 hy2 hij hk
      · rw [ey]; exact hap i x g hx2 hk
    · rcases part j y hy with hy2 | ⟨ej, ey⟩
      · rw [ex] at hk
        exact fun e => hap j y g hy2 e hk
      · exact absurd (ei.trans ej.symm) hij
theorem ownT_none (w : World) (base : Nat) : OwnT w base (.slice none 0 0) [] [] := ⟨Ly.Own.nil _ _, rfl, fun i x m hx => by simp at hx, fun i j x y g hx => by simp at hx⟩
/-- What CopyTree holds: the tree's box, the answer's, the copy's, its nodes so far. -/
structure CS (w wr : World) (root next : Int) (p : Option Addr) (n cap : Nat) (ns : List Nd) (nv : Value) (vs : List Nv) : Prop where
  boxA : wr.heap[w.heap.size]? = some (.cells #[.int .i64 root, .int .i64 next, .slice p n cap] 26 (0, 0))
  boxR : wr.heap[w.heap.size + 1]? = some (.cells #[.int .i64 0, .int .i64 0, .slice none 0 0] 26 (0, 0))
  boxB : wr.heap[w.heap.size + 2]? = some (.cells #[.int .i64 root, .int .i64 next, nv] 26 (0, 0))
  own : OwnT wr w.heap.size nv vs ns
  below : Below w.heap.size w wr
theorem CS.later {w wr W : World} {root next : Int} {p : Option Addr} {n cap : Nat} {ns : List Nd} {nv : Value} {vs : List Nv} (h : CS w wr root next p n cap ns nv vs) (hb : Below wr.heap.size wr W) : CS w W root next p n cap ns nv vs :=
  ⟨(hb.block _ (Array.getElem?_eq_some_iff.1 h.boxA).1).trans h.boxA, (hb.block _ (Array.getElem?_eq_some_iff.1 h.boxR).1).trans h.boxR, (hb.block _ (Array.getElem?_eq_some_iff.1 h.boxB).1).trans h.boxB, h.own.below hb, h.below.trans (hb.mono h.below.size)⟩

theorem OwnS.pushK {W w' : World} {base : Nat} {nv nv' : Value} {vs : List Sv} {ss : List St} (h : OwnS W base nv vs ss) (hg : W.grownBy w' nv.ownBlock) (v : Sv) (s : St) (hv : FitS W base v s) (ho : lyS.Own w' base nv' (vs ++ [v])) : OwnS w' base nv' (vs ++ [v]) (ss ++ [s]) := by
  have keep : ∀ (x : Sv) (m : St), FitS W base x m → FitS w' base x m := fun x m hf => hf.kept hg (fun g e => h.row.obj e)
  have hl := h.len
  refine ⟨ho, by rw [List.length_append, List.length_append, hl]; rfl, fun i x m hx hm => ?_⟩
  by_cases hi : i < vs.length
  · rw [List.getElem?_append_left hi] at hx
    rw [List.getElem?_append_left (by omega)] at hm
    exact keep x m (h.fit i x m hx hm)
  · have hi2 : i = vs.length := by have := (List.getElem?_eq_some_iff.1 hx).1; simp at this; omega
    subst hi2
    rw [List.getElem?_append_right (Nat.le_refl _), Nat.sub_self] at hx
    rw [List.getElem?_append_right (by omega), hl, Nat.sub_self] at hm
    simp at hx hm
    subst hx; subst hm
    exact keep _ _ hv

end Go.Proofs.YtjmfjlffcopnnaaGreatDoor

namespace Go.Proofs.YtjmfjlffcopnnaaGreatDoor
open Go.RowKit

/-- A row of steps that may be written over: its steps' children lie apart. -/
structure SpS (w : World) (base : Nat) (v : Value) (n : Nat) (vs : List Sv) : Prop where
  row : lyS.Own w base v vs
  len : vs.length = n
  kids : ∀ (i : Nat) x, vs[i]? = some x → ∃ l, lyI.Own w base x.kv l
  apart : ∀ (i j : Nat) x y g, vs[i]? = some x → vs[j]? = some y → i ≠ j → x.kv.ownBlock = some g → y.kv.ownBlock ≠ some g

end Go.Proofs.YtjmfjlffcopnnaaGreatDoor

namespace Go.Proofs.YtjmfjlffcopnnaaGreatDoor
open Go.RowKit

/-- A row of nodes that may be written over: their children lie apart. -/
structure SpT (w : World) (base : Nat) (v : Value) (n : Nat) (vs : List Nv) : Prop where
  row : lyN.Own w base v vs
  len : vs.length = n
  kids : ∀ (i : Nat) x, vs[i]? = some x → ∃ l, lyI.Own w base x.kv l
  apart : ∀ (i j : Nat) x y g, vs[i]? = some x → vs[j]? = some y → i ≠ j → x.kv.ownBlock = some g → y.kv.ownBlock ≠ some g
theorem OwnT.spt {w : World} {base n cap : Nat} {p : Option Addr} {vs : List Nv} {ns : List Nd} (h : OwnT w base (.slice p n cap) vs ns) : SpT w base (.slice p n cap) n vs := by
  have hl : vs.length = n := by
    obtain ⟨p', c', e⟩ := h.row.form
    cases e; rfl
  exact ⟨h.row, hl, fun i x hx => ⟨_, (h.fit i x _ hx (List.getElem?_eq_getElem (by rw [← h.len]; exact (List.getElem?_eq_some_iff.1 hx).1))).2.2.2.2⟩, h.apart⟩
theorem OwnT.kn {w : World} {base : Nat} {v : Value} {vs : List Nv} {ns : List Nd} (h : OwnT w base v vs ns) {b : Nat} (hk : ∀ s ∈ ns, s.kids.length ≤ b) : ∀ x ∈ vs, x.kn ≤ b := by
  intro x hx
  obtain ⟨i, hi⟩ := List.mem_iff_getElem?.1 hx
  have hl : i < ns.length := by rw [← h.len]; exact (List.getElem?_eq_some_iff.1 hi).1
  obtain ⟨_, _, _, _, f⟩ := h.fit i x _ hi (List.getElem?_eq_getElem hl)
  obtain ⟨kp, kc, hkv⟩ := f.form
  unfold Nv.kv at hkv
  simp only [Value.slice.injEq] at hkv
  rw [hkv.2.1]
  exact hk _ (List.getElem_mem hl)

end Go.Proofs.YtjmfjlffcopnnaaGreatDoor

namespace Go.Proofs.YtjmfjlffcopnnaaGreatDoor
open Go.RowKit

/-- Of what was there, nothing but these blocks is written. -/
structure Touch (B : Nat → Prop) (w w' : World) : Prop where
  os : w'.os = w.os
  tape : w'.tape = w.tape
  output : w'.output = w.output
  size : w.heap.size ≤ w'.heap.size
  block : ∀ k, k < w.heap.size → ¬ B k → w'.heap[k]? = w.heap[k]?
theorem Touch.refl (B : Nat → Prop) (w : World) : Touch B w w := ⟨rfl, rfl, rfl, Nat.le_refl _, fun _ _ _ => rfl⟩
theorem Touch.trans {B : Nat → Prop} {w w1 w2 : World} (h : Touch B w w1) (h1 : Touch B w1 w2) : Touch B w w2 :=
  ⟨h1.os.trans h.os, h1.tape.trans h.tape, h1.output.trans h.output, Nat.le_trans h.size h1.size, fun k hk hb => (h1.block k (Nat.lt_of_lt_of_le hk h.size) hb).trans (h.block k hk hb)⟩
theorem Touch.mono {B B' : Nat → Prop} {w w1 : World} (h : Touch B w w1) (hb : ∀ k, k < w.heap.size → B k → B' k) : Touch B' w w1 :=
  ⟨h.os, h.tape, h.output, h.size, fun k hk hn => h.block k hk (fun e => hn (hb k hk e))⟩
theorem Touch.of_grown {B : Nat → Prop} {w w1 : World} {row : Option Nat} (h : w.grownBy w1 row) (hb : ∀ g, row = some g → B g) : Touch B w w1 :=
  ⟨h.os, h.tape, h.output, h.size, fun k hk hn => h.block k hk (fun e => hn (hb k e.symm))⟩
theorem Touch.below {B : Nat → Prop} {w w1 : World} {base : Nat} (h : Touch B w w1) (hb : ∀ k, B k → base ≤ k) (hs : base ≤ w.heap.size) : Below base w w1 :=
  ⟨h.os, h.tape, h.output, h.size, fun k hk => h.block k (Nat.lt_of_lt_of_le hk hs) (fun e => by have := hb k e; omega)⟩
theorem Touch.of_below {B : Nat → Prop} {w w1 : World} (h : Below w.heap.size w w1) : Touch B w w1 := ⟨h.os, h.tape, h.output, h.size, fun k hk _ => h.block k hk⟩
theorem Touch.obj {B : Nat → Prop} {w w1 : World} {k : Nat} {o : Obj} (h : Touch B w w1) (ho : w.heap[k]? = some o) (hk : ¬ B k) : w1.heap[k]? = some o := (h.block k (Array.getElem?_eq_some_iff.1 ho).1 hk).trans ho
theorem Ly.Own.touch {α : Type} {L : Ly α} {B : Nat → Prop} {w w' : World} {base : Nat} {v : Value} {xs : List α} (h : L.Own w base v xs) (ht : Touch B w w') (hb : ∀ g, v.ownBlock = some g → ¬ B g) : L.Own w' base v xs := by
  refine ⟨h.1, ?_⟩
  rcases h.2 with h2 | ⟨g, cap, cur, hv, h1, h2, h3⟩
  · exact .inl h2
  · subst hv
    exact .inr ⟨g, cap, cur, rfl, h1, ht.obj h2 (hb g rfl), h3⟩

end Go.Proofs.YtjmfjlffcopnnaaGreatDoor

namespace Go.Proofs.YtjmfjlffcopnnaaGreatDoor
open Go.Proofs.YtjmfjlffcopnnaaGreatDoor.K (C)

/-! Digits -/

def decA : Nat → Nat → List UInt8 → List UInt8
  | 0, _, acc => acc
  | f + 1, n, acc => if n / 10 = 0 then UInt8.ofNat (48 + n % 10) :: acc else decA f (n / 10) (UInt8.ofNat (48 + n % 10) :: acc)
/-- A number's digits. -/
def decL (n : Nat) : List UInt8 := decA (n + 1) n []
def dgB (c : UInt8) : Prop := 48 ≤ c.toNat ∧ c.toNat ≤ 57
def valD (x : Nat) (l : List UInt8) : Nat := l.foldl (fun x c => 10 * x + (c.toNat - 48)) x
theorem dg_nat {k : Nat} (h : k < 10) : (UInt8.ofNat (48 + k)).toNat = 48 + k := by
  rw [UInt8.toNat_ofNat']
  omega
theorem decA_dg : ∀ (f n : Nat) (acc : List UInt8), (∀ c ∈ acc, dgB c) → ∀ c ∈ decA f n acc, dgB c
  | 0, _, _, h => h
  | f + 1, n, acc, h => by
    have hd : dgB (UInt8.ofNat (48 + n % 10)) := by
      unfold dgB
      rw [dg_nat (by omega)]
      omega
    have hc : ∀ c ∈ UInt8.ofNat (48 + n % 10) :: acc, dgB c := fun c hc => by
      rcases List.mem_cons.1 hc with rfl | hc
      · exact hd
      · exact h c hc
    unfold decA
    split
    · exact hc
    · exact decA_dg f (n / 10) _ hc
theorem decA_val : ∀ (f n : Nat) (acc : List UInt8), n < f → valD 0 (decA f n acc) = valD n acc
  | 0, _, _, h => by omega
  | f + 1, n, acc, h => by
    unfold decA
    split
    · simp only [valD, List.foldl_cons]
      rw [dg_nat (by omega)]
      congr 1
      omega
    · rw [decA_val f (n / 10) _ (by omega)]
      simp only [valD, List.foldl_cons]
      rw [dg_nat (by omega)]
      congr 1
      omega
theorem decL_dg (n : Nat) : ∀ c ∈ decL n, dgB c := decA_dg _ _ _ (by intro c hc; cases hc)
theorem decL_val (n : Nat) : valD 0 (decL n) = n := decA_val _ _ _ (by omega)
theorem decL_inj {n m : Nat} (h : decL n = decL m) : n = m := by rw [← decL_val n, h, decL_val]
theorem decA_ne : ∀ (f n : Nat) (acc : List UInt8), 0 < f → decA f n acc ≠ []
  | f + 1, n, acc, _ => by
    unfold decA
    split
    · simp
    · cases f with
      | zero => simp [decA]
      | succ f => exact decA_ne (f + 1) _ _ (by omega)
/-- How many digits. -/
def digN : Nat → Nat → Nat
  | 0, _ => 0
  | f + 1, n => if n / 10 = 0 then 1 else digN f (n / 10) + 1
theorem decA_len : ∀ (f n : Nat) (acc : List UInt8), (decA f n acc).length = acc.length + digN f n
  | 0, _, _ => by simp [decA, digN]
  | f + 1, n, acc => by
    unfold decA digN
    split
    · simp
    · rw [decA_len f]; simp only [List.length_cons]; omega
theorem digN_mono : ∀ (f f' n m : Nat), n < f → m < f' → n ≤ m → digN f n ≤ digN f' m
  | f + 1, f' + 1, n, m, h, h', hle => by
    unfold digN
    split
    · split <;> omega
    · rw [if_neg (by omega)]
      have := digN_mono f f' (n / 10) (m / 10) (by omega) (by omega) (by omega)
      omega
  | 0, _, _, _, h, _, _ => by omega
  | _ + 1, 0, _, _, _, h, _ => by omega
theorem decL_mono {n m : Nat} (h : n ≤ m) : (decL n).length ≤ (decL m).length := by
  unfold decL
  rw [decA_len, decA_len]
  have := digN_mono (n + 1) (m + 1) n m (by omega) (by omega) h
  omega
/-- Digits up to a sign are read in one way. -/
theorem dg_ur : ∀ {a b : List UInt8} {c : UInt8} {r r' : List UInt8}, (∀ x ∈ a, dgB x) → (∀ x ∈ b, dgB x) → ¬ dgB c → a ++ c :: r = b ++ c :: r' → a = b ∧ r = r'
  | [], [], _, _, _, _, _, _, h => by simp at h; exact ⟨rfl, h⟩
  | [], y :: b, _, _, _, _, hb, hc, h => by
    simp only [List.nil_append, List.cons_append, List.cons.injEq] at h
    exact (hc (h.1 ▸ hb y (List.mem_cons_self ..))).elim
  | x :: a, [], _, _, _, ha, _, hc, h => by
    simp only [List.nil_append, List.cons_append, List.cons.injEq] at h
    exact (hc (h.1 ▸ ha x (List.mem_cons_self ..))).elim
  | x :: a, y :: b, _, _, _, ha, hb, hc, h => by
    simp only [List.cons_append, List.cons.injEq] at h
    have := dg_ur (fun z hz => ha z (List.mem_cons_of_mem _ hz)) (fun z hz => hb z (List.mem_cons_of_mem _ hz)) hc h.2
    exact ⟨by rw [h.1, this.1], this.2⟩
theorem dec_ur {n m : Nat} {c : UInt8} {r r' : List UInt8} (hc : ¬ dgB c) (h : decL n ++ c :: r = decL m ++ c :: r') : n = m ∧ r = r' := by
  have := dg_ur (decL_dg n) (decL_dg m) hc h
  exact ⟨decL_inj this.1, this.2⟩

/-! What is read in one way, with all that is behind it -/

def UR {α : Type} (P : α → Prop) (f : α → List UInt8 → List UInt8) : Prop := ∀ x y r r', P x → P y → f x r = f y r' → x = y ∧ r = r'
def numC (x : Int) (r : List UInt8) : List UInt8 := decL x.toNat ++ 44 :: r
def strC (t : List UInt8) (r : List UInt8) : List UInt8 := decL t.length ++ 58 :: (t ++ r)
def rowC {α : Type} (f : α → List UInt8 → List UInt8) (xs : List α) (r : List UInt8) : List UInt8 := xs.foldr f r
def listC {α : Type} (f : α → List UInt8 → List UInt8) (xs : List α) (r : List UInt8) : List UInt8 := numC xs.length (rowC f xs r)

theorem num_ur : UR (fun x => 0 ≤ x) numC := by
  intro x y r r' hx hy h
  have := dec_ur (c := 44) (by unfold dgB; decide) h
  exact ⟨by omega, this.2⟩
theorem str_ur : UR (fun _ => True) strC := by
  intro x y r r' _ _ h
  obtain ⟨h1, h2⟩ := dec_ur (c := 58) (by unfold dgB; decide) h
  exact List.append_inj h2 h1
theorem row_ur {α : Type} {P : α → Prop} {f : α → List UInt8 → List UInt8} (hf : UR P f) : ∀ (xs ys : List α) (r r' : List UInt8), xs.length = ys.length → (∀ x ∈ xs, P x) → (∀ y ∈ ys, P y) →
    rowC f xs r = rowC f ys r' → xs = ys ∧ r = r'
  | [], [], _, _, _, _, _, h => ⟨rfl, h⟩
  | [], _ :: _, _, _, h, _, _, _ => by simp at h
  | _ :: _, [], _, _, h, _, _, _ => by simp at h
  | x :: xs, y :: ys, r, r', hl, hx, hy, h => by
    have h1 := hf x y _ _ (hx x (List.mem_cons_self ..)) (hy y (List.mem_cons_self ..)) h
    have h2 := row_ur hf xs ys r r' (by simpa using hl) (fun z hz => hx z (List.mem_cons_of_mem _ hz)) (fun z hz => hy z (List.mem_cons_of_mem _ hz)) h1.2
    exact ⟨by rw [h1.1, h2.1], h2.2⟩
theorem list_ur {α : Type} {P : α → Prop} {f : α → List UInt8 → List UInt8} (hf : UR P f) : UR (fun xs : List α => ∀ x ∈ xs, P x) (listC f) := by
  intro xs ys r r' hx hy h
  have h1 := num_ur _ _ _ _ (by simp only; omega) (by simp only; omega) h
  exact row_ur hf xs ys r r' (by have := h1.1; omega) hx hy h1.2

/-! Behind what is read comes the rest -/

def App {α : Type} (f : α → List UInt8 → List UInt8) : Prop := ∀ x r r', f x (r ++ r') = f x r ++ r'
theorem num_app : App numC := by intro x r r'; simp [numC]
theorem str_app : App strC := by intro x r r'; simp [strC]
theorem row_app {α : Type} {f : α → List UInt8 → List UInt8} (hf : App f) : App (rowC f) := by
  intro xs
  induction xs with
  | nil => intro r r'; rfl
  | cons x xs ih =>
    intro r r'
    show f x (rowC f xs (r ++ r')) = f x (rowC f xs r) ++ r'
    rw [ih, hf]
theorem list_app {α : Type} {f : α → List UInt8 → List UInt8} (hf : App f) : App (listC f) := by
  intro xs r r'
  unfold listC
  rw [row_app hf, num_app]
theorem App.nil {α : Type} {f : α → List UInt8 → List UInt8} (hf : App f) (x : α) (r : List UInt8) : f x r = f x [] ++ r := by
  have := hf x [] r
  rw [List.nil_append] at this
  exact this

/-- An entry. -/
structure En where
  cl : Int
  sq : Int
  ed : List C
  dl : List St
/-- A message. -/
structure Ms where
  kd : Int
  cl : Int
  rv : Int
  sq : Int
  fr : Int
  ls : Int
  rf : Bool
  tx : ByteArray
  ro : Int
  nx : Int
  ns : List Nd
  ed : List C
  es : List En

def bytesOf (t : ByteArray) : List UInt8 := t.data.toList
theorem bytes_inj {a b : ByteArray} (h : bytesOf a = bytesOf b) : a = b := by
  obtain ⟨⟨a⟩⟩ := a
  obtain ⟨⟨b⟩⟩ := b
  simp only [bytesOf] at h
  subst h
  rfl

def compC (c : C) (r : List UInt8) : List UInt8 := if c.k = 1 then 112 :: strC (bytesOf c.t) r else if c.k = 0 then 107 :: numC c.n r else 99 :: numC c.n r
def stepC (s : St) (r : List UInt8) : List UInt8 := numC s.kd (numC s.id (numC s.nd (numC s.fr (numC s.to (listC numC s.kids r)))))
def nodeC (x : Nd) (r : List UInt8) : List UInt8 := numC x.id (numC x.kd (numC x.fr (numC x.to (listC numC x.kids r))))
def entC (e : En) (r : List UInt8) : List UInt8 := numC e.cl (numC e.sq (listC compC e.ed (listC stepC e.dl r)))
def treeC (ro nx : Int) (ns : List Nd) (r : List UInt8) : List UInt8 := numC ro (numC nx (listC nodeC ns r))
def msgC (m : Ms) (r : List UInt8) : List UInt8 :=
  if m.kd = 0 then 80 :: numC m.cl (numC m.rv (numC m.sq (listC compC m.ed r)))
  else if m.kd = 1 then 67 :: numC m.cl (numC m.rv (listC entC m.es r))
  else 83 :: numC m.cl (numC m.rv (numC m.sq (numC m.fr (numC m.ls (numC (if m.rf then 1 else 0) (strC (bytesOf m.tx) (treeC m.ro m.nx m.ns r)))))))

def CpOk (c : C) : Prop := (c.k = 1 ∧ c.n = 0) ∨ ((c.k = 0 ∨ c.k = 2) ∧ 0 ≤ c.n ∧ c.t = ⟨#[]⟩)
def NumsOk (l : List Int) : Prop := ∀ x ∈ l, 0 ≤ x
def StOk (s : St) : Prop := 0 ≤ s.kd ∧ 0 ≤ s.id ∧ 0 ≤ s.nd ∧ 0 ≤ s.fr ∧ 0 ≤ s.to ∧ NumsOk s.kids
def NdOk (s : Nd) : Prop := 0 ≤ s.id ∧ 0 ≤ s.kd ∧ 0 ≤ s.fr ∧ 0 ≤ s.to ∧ NumsOk s.kids
def EnOk (e : En) : Prop := 0 ≤ e.cl ∧ 0 ≤ e.sq ∧ (∀ c ∈ e.ed, CpOk c) ∧ (∀ s ∈ e.dl, StOk s)
def MsOk (m : Ms) : Prop := 0 ≤ m.cl ∧ 0 ≤ m.rv ∧ 0 ≤ m.sq ∧
  ((m.kd = 0 ∧ m.fr = 0 ∧ m.ls = 0 ∧ m.rf = false ∧ m.tx = ⟨#[]⟩ ∧ m.ro = 0 ∧ m.nx = 0 ∧ m.ns = [] ∧ m.es = [] ∧ (∀ c ∈ m.ed, CpOk c))
  ∨ (m.kd = 1 ∧ m.sq = 0 ∧ m.fr = 0 ∧ m.ls = 0 ∧ m.rf = false ∧ m.tx = ⟨#[]⟩ ∧ m.ro = 0 ∧ m.nx = 0 ∧ m.ns = [] ∧ m.ed = [] ∧ (∀ e ∈ m.es, EnOk e))
  ∨ (m.kd = 2 ∧ 0 ≤ m.fr ∧ 0 ≤ m.ls ∧ 0 ≤ m.ro ∧ 0 ≤ m.nx ∧ m.ed = [] ∧ m.es = [] ∧ (∀ x ∈ m.ns, NdOk x)))

theorem comp_ur : UR CpOk compC := by
  intro x y r r' hx hy h
  obtain ⟨k, n, t⟩ := x
  obtain ⟨k', n', t'⟩ := y
  simp only [CpOk, compC] at *
  rcases hx with ⟨rfl, rfl⟩ | ⟨hk, hn, rfl⟩ <;> rcases hy with ⟨rfl, rfl⟩ | ⟨hk', hn', rfl⟩
  · simp only [if_true, List.cons.injEq, true_and] at h
    have := str_ur _ _ _ _ trivial trivial h
    exact ⟨by rw [bytes_inj this.1], this.2⟩
  · rcases hk' with rfl | rfl <;> simp at h
  · rcases hk with rfl | rfl <;> simp at h
  · have key : numC n r = numC n' r' → n = n' ∧ r = r' := num_ur _ _ _ _ hn hn'
    rcases hk with rfl | rfl <;> rcases hk' with rfl | rfl <;> simp at h
    · obtain ⟨rfl, rfl⟩ := key h; exact ⟨rfl, rfl⟩
    · obtain ⟨rfl, rfl⟩ := key h; exact ⟨rfl, rfl⟩
theorem nums_ur : UR NumsOk (listC numC) := list_ur num_ur
theorem step_ur : UR StOk stepC := by
  intro x y r r' hx hy h
  obtain ⟨a1, a2, a3, a4, a5, a6⟩ := hx
  obtain ⟨b1, b2, b3, b4, b5, b6⟩ := hy
  unfold stepC at h
  obtain ⟨e1, g1⟩ := num_ur _ _ _ _ a1 b1 h
  obtain ⟨e2, g2⟩ := num_ur _ _ _ _ a2 b2 g1
  obtain ⟨e3, g3⟩ := num_ur _ _ _ _ a3 b3 g2
  obtain ⟨e4, g4⟩ := num_ur _ _ _ _ a4 b4 g3
  obtain ⟨e5, g5⟩ := num_ur _ _ _ _ a5 b5 g4
  obtain ⟨e6, g6⟩ := nums_ur _ _ _ _ a6 b6 g5
  obtain ⟨x1, x2, x3, x4, x5, x6⟩ := x
  obtain ⟨y1, y2, y3, y4, y5, y6⟩ := y
  simp only at e1 e2 e3 e4 e5 e6
  subst e1 e2 e3 e4 e5 e6
  exact ⟨rfl, g6⟩
theorem node_ur : UR NdOk nodeC := by
  intro x y r r' hx hy h
  obtain ⟨a1, a2, a3, a4, a6⟩ := hx
  obtain ⟨b1, b2, b3, b4, b6⟩ := hy
  unfold nodeC at h
  obtain ⟨e1, g1⟩ := num_ur _ _ _ _ a1 b1 h
  obtain ⟨e2, g2⟩ := num_ur _ _ _ _ a2 b2 g1
  obtain ⟨e3, g3⟩ := num_ur _ _ _ _ a3 b3 g2
  obtain ⟨e4, g4⟩ := num_ur _ _ _ _ a4 b4 g3
  obtain ⟨e6, g5⟩ := nums_ur _ _ _ _ a6 b6 g4
  obtain ⟨x1, x2, x3, x4, x6⟩ := x
  obtain ⟨y1, y2, y3, y4, y6⟩ := y
  simp only at e1 e2 e3 e4 e6
  subst e1 e2 e3 e4 e6
  exact ⟨rfl, g5⟩
theorem ent_ur : UR EnOk entC := by
  intro x y r r' hx hy h
  obtain ⟨a1, a2, a3, a4⟩ := hx
  obtain ⟨b1, b2, b3, b4⟩ := hy
  unfold entC at h
  obtain ⟨e1, g1⟩ := num_ur _ _ _ _ a1 b1 h
  obtain ⟨e2, g2⟩ := num_ur _ _ _ _ a2 b2 g1
  obtain ⟨e3, g3⟩ := list_ur comp_ur _ _ _ _ a3 b3 g2
  obtain ⟨e4, g4⟩ := list_ur step_ur _ _ _ _ a4 b4 g3
  obtain ⟨x1, x2, x3, x4⟩ := x
  obtain ⟨y1, y2, y3, y4⟩ := y
  simp only at e1 e2 e3 e4
  subst e1 e2 e3 e4
  exact ⟨rfl, g4⟩
theorem msg_ur : UR MsOk msgC := by
  intro x y r r' hx hy h
  obtain ⟨x1, x2, x3, x4, x5, x6, x7, x8, x9, x10, x11, x12, x13⟩ := x
  obtain ⟨y1, y2, y3, y4, y5, y6, y7, y8, y9, y10, y11, y12, y13⟩ := y
  simp only [MsOk, msgC, treeC] at hx hy h
  obtain ⟨a1, a2, a3, hx⟩ := hx
  obtain ⟨b1, b2, b3, hy⟩ := hy
  rcases hx with ⟨rfl, rfl, rfl, rfl, rfl, rfl, rfl, rfl, rfl, hx⟩ | ⟨rfl, rfl, rfl, rfl, rfl, rfl, rfl, rfl, rfl, rfl, hx⟩ | ⟨rfl, c1, c2, c3, c4, rfl, rfl, hx⟩ <;>
  rcases hy with ⟨rfl, rfl, rfl, rfl, rfl, rfl, rfl, rfl, rfl, hy⟩ | ⟨rfl, rfl, rfl, rfl, rfl, rfl, rfl, rfl, rfl, rfl, hy⟩ | ⟨rfl, d1, d2, d3, d4, rfl, rfl, hy⟩
  · simp only [if_true, List.cons.injEq, true_and] at h
    obtain ⟨rfl, g1⟩ := num_ur _ _ _ _ a1 b1 h
    obtain ⟨rfl, g2⟩ := num_ur _ _ _ _ a2 b2 g1
    obtain ⟨rfl, g3⟩ := num_ur _ _ _ _ a3 b3 g2
    obtain ⟨rfl, g4⟩ := list_ur comp_ur _ _ _ _ hx hy g3
    exact ⟨rfl, g4⟩
  · simp at h
  · simp at h
  · simp at h
  · simp only [show ¬ ((1 : Int) = 0) by decide, if_true, if_false, List.cons.injEq, true_and] at h
    obtain ⟨rfl, g1⟩ := num_ur _ _ _ _ a1 b1 h
    obtain ⟨rfl, g2⟩ := num_ur _ _ _ _ a2 b2 g1
    obtain ⟨rfl, g3⟩ := list_ur ent_ur _ _ _ _ hx hy g2
    exact ⟨rfl, g3⟩
  · simp at h
  · simp at h
  · simp at h
  · simp only [show ¬ ((2 : Int) = 0) by decide, show ¬ ((2 : Int) = 1) by decide, if_false, List.cons.injEq, true_and] at h
    obtain ⟨rfl, g1⟩ := num_ur _ _ _ _ a1 b1 h
    obtain ⟨rfl, g2⟩ := num_ur _ _ _ _ a2 b2 g1
    obtain ⟨rfl, g3⟩ := num_ur _ _ _ _ a3 b3 g2
    obtain ⟨rfl, g4⟩ := num_ur _ _ _ _ c1 d1 g3
    obtain ⟨rfl, g5⟩ := num_ur _ _ _ _ c2 d2 g4
    obtain ⟨h7, g6⟩ := num_ur _ _ _ _ (by split <;> decide) (by split <;> decide) g5
    obtain ⟨h8, g7⟩ := str_ur _ _ _ _ trivial trivial g6
    obtain ⟨rfl, g8⟩ := num_ur _ _ _ _ c3 d3 g7
    obtain ⟨rfl, g9⟩ := num_ur _ _ _ _ c4 d4 g8
    obtain ⟨rfl, g10⟩ := list_ur node_ur _ _ _ _ hx hy g9
    have h7' : x7 = y7 := by cases x7 <;> cases y7 <;> simp at h7 <;> rfl
    subst h7'
    obtain rfl := bytes_inj h8
    exact ⟨rfl, g10⟩
theorem msg_inj {x y : Ms} (hx : MsOk x) (hy : MsOk y) (h : msgC x [] = msgC y []) : x = y := (msg_ur x y [] [] hx hy h).1
theorem msg_ne (x : Ms) : msgC x [] ≠ [] := by
  unfold msgC
  split
  · simp
  split <;> simp

end Go.Proofs.YtjmfjlffcopnnaaGreatDoor
