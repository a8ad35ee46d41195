/-
  What it tells of a text that something was taken from its beginning, or that nothing such stands there: numbers, texts, letters, lists, pieces, steps, nodes, entries, messages. No program in it, no condition.
-/
import Derived.Test.YtjmfjlffcopnnaaGreatDoorPM21
namespace Go.Proofs.YtjmfjlffcopnnaaGreatDoor
open Go.Proofs.YtjmfjlffcopnnaaGreatDoor.K (C)

/-- Behind a reading: either nothing is wrong, and x stood there with l' behind it; or it is wrong now, and was before or no such thing stood there. -/
def Took {α : Type} (P : α → Prop) (f : α → List UInt8 → List UInt8) (l : List UInt8) (b : Bool) (x : α) (l' : List UInt8) (b' : Bool) : Prop :=
  (b' = false → b = false ∧ P x ∧ l = f x l') ∧ (b' = true → b = true ∨ ¬ ∃ x0 r, P x0 ∧ l = f x0 r)
theorem UR.mono {α : Type} {P Q : α → Prop} {f : α → List UInt8 → List UInt8} (h : UR Q f) (hp : ∀ x, P x → Q x) : UR P f := fun x y r r' hx hy e => h x y r r' (hp x hx) (hp y hy) e
theorem Took.seq {α β : Type} {P : α → Prop} {Q : β → Prop} {f : α → List UInt8 → List UInt8} {g : β → List UInt8 → List UInt8} {l l1 l2 : List UInt8} {b b1 b2 : Bool} {x : α} {y : β} (hf : UR P f) (h1 : Took P f l b x l1 b1) (h2 : Took Q g l1 b1 y l2 b2) :
    Took (fun p : α × β => P p.1 ∧ Q p.2) (fun p r => f p.1 (g p.2 r)) l b (x, y) l2 b2 := by
  refine ⟨fun e => ?_, fun e => ?_⟩
  · obtain ⟨e1, hy, rfl⟩ := h2.1 e
    obtain ⟨e0, hx, rfl⟩ := h1.1 e1
    exact ⟨e0, ⟨hx, hy⟩, rfl⟩
  · cases b1 with
    | true =>
      rcases h1.2 rfl with h | h
      · exact .inl h
      · exact .inr (fun ⟨p, r, hp, hl⟩ => h ⟨p.1, _, hp.1, hl⟩)
    | false =>
      rcases h2.2 e with h | h
      · cases h
      · obtain ⟨e0, hx, rfl⟩ := h1.1 rfl
        refine .inr (fun ⟨p, r, hp, hl⟩ => h ⟨p.2, r, hp.2, ?_⟩)
        exact (hf _ _ _ _ hx hp.1 hl).2
theorem Took.map {α β : Type} {P : α → Prop} {Q : β → Prop} {f : α → List UInt8 → List UInt8} {g : β → List UInt8 → List UInt8} {l l' : List UInt8} {b b' : Bool} {x : α} (h : Took P f l b x l' b') (φ : α → β) (h1 : ∀ x, P x → Q (φ x) ∧ ∀ r, g (φ x) r = f x r) (h2 : ∀ y, Q y → ∃ x, P x ∧ φ x = y) : Took Q g l b (φ x) l' b' := by
  refine ⟨fun e => ?_, fun e => ?_⟩
  · obtain ⟨e0, hx, rfl⟩ := h.1 e
    exact ⟨e0, (h1 x hx).1, ((h1 x hx).2 l').symm⟩
  · rcases h.2 e with h | h
    · exact .inl h
    · refine .inr (fun ⟨y, r, hy, hl⟩ => ?_)
      obtain ⟨x0, hx0, rfl⟩ := h2 y hy
      exact h ⟨x0, r, hx0, hl.trans ((h1 x0 hx0).2 r)⟩

/-! Letters -/
def LeP (ls : List UInt8) (k : Int) : Prop := 0 ≤ k ∧ k < (ls.length : Int)
def letC (ls : List UInt8) (k : Int) (r : List UInt8) : List UInt8 := (ls[k.toNat]?).getD 0 :: r
theorem let_ur {ls : List UInt8} (hn : ls.Nodup) : UR (LeP ls) (letC ls) := by
  intro x y r r' hx hy h
  obtain ⟨x0, x1⟩ := hx
  obtain ⟨y0, y1⟩ := hy
  unfold letC at h
  have hx' : x.toNat < ls.length := by omega
  have hy' : y.toNat < ls.length := by omega
  rw [List.getElem?_eq_getElem hx', List.getElem?_eq_getElem hy'] at h
  simp only [Option.getD_some, List.cons.injEq] at h
  have := (List.getElem_inj hn).1 h.1
  exact ⟨by omega, h.2⟩
/-- Behind a letter, what it names. -/
theorem Took.kind {α β : Type} {ls : List UInt8} (hn : ls.Nodup) {P : α → Prop} {Q : β → Prop} {f : α → List UInt8 → List UInt8} {g : β → List UInt8 → List UInt8} {l l1 l' : List UInt8} {b b1 b' : Bool} {k : Int} {x : α} (idx : β → Int) (hi : ∀ y, Q y → LeP ls (idx y)) (hL : Took (LeP ls) (letC ls) l b k l1 b1) (hB : Took P f l1 b1 x l' b') (φ : α → β)
    (h1 : ∀ x, P x → Q (φ x) ∧ ∀ r, g (φ x) r = letC ls k (f x r)) (h2 : ∀ y, Q y → idx y = k → ∃ x, P x ∧ φ x = y) (h3 : ∀ y r, Q y → ∃ r', g y r = letC ls (idx y) r') : Took Q g l b (φ x) l' b' := by
  refine ⟨fun e => ?_, fun e => ?_⟩
  · obtain ⟨e1, hx, rfl⟩ := hB.1 e
    obtain ⟨e0, hk, rfl⟩ := hL.1 e1
    exact ⟨e0, (h1 x hx).1, ((h1 x hx).2 l').symm⟩
  · cases b1 with
    | true =>
      rcases hL.2 rfl with h | h
      · exact .inl h
      · refine .inr (fun ⟨y, r, hy, hl⟩ => ?_)
        obtain ⟨r', hr⟩ := h3 y r hy
        exact h ⟨idx y, r', hi y hy, hl.trans hr⟩
    | false =>
      rcases hB.2 e with h | h
      · cases h
      · obtain ⟨e0, hk, rfl⟩ := hL.1 rfl
        refine .inr (fun ⟨y, r, hy, hl⟩ => ?_)
        obtain ⟨r', hr⟩ := h3 y r hy
        have hik := (let_ur hn _ _ _ _ hk (hi y hy) (hl.trans hr)).1
        obtain ⟨x0, hx0, rfl⟩ := h2 y hy hik.symm
        have := hl.trans ((h1 x0 hx0).2 r)
        exact h ⟨x0, r, hx0, (let_ur hn _ _ _ _ hk hk this).2⟩
theorem took_let_yes {ls l r : List UInt8} {b : Bool} {k : Nat} (hb : b = true → l = []) {c : UInt8} (hk : ls[k]? = some c) (hl : l = c :: r) : Took (LeP ls) (letC ls) l b (k : Int) r b := by
  have hlt := (List.getElem?_eq_some_iff.1 hk).1
  refine ⟨fun e => ⟨e, ⟨by omega, by omega⟩, ?_⟩, fun e => ?_⟩
  · unfold letC
    rw [Int.toNat_natCast, hk, hl]
    rfl
  · have := hb e
    rw [hl] at this
    cases this
theorem took_let_no {ls l : List UInt8} {b : Bool} (h : l = [] ∨ ∃ c r, l = c :: r ∧ c ∉ ls) : Took (LeP ls) (letC ls) l b 0 [] true := by
  refine ⟨fun e => (by cases e), fun _ => .inr ?_⟩
  rintro ⟨k, r, ⟨k0, k1⟩, hl⟩
  have hk : k.toNat < ls.length := by omega
  unfold letC at hl
  rw [List.getElem?_eq_getElem hk, Option.getD_some] at hl
  rcases h with h | ⟨c, r', h, hc⟩
  · rw [h] at hl; cases hl
  · rw [h] at hl
    injection hl with e1 e2
    exact hc (e1 ▸ List.getElem_mem hk)

/-! Digits -/
def NuP (x : Int) : Prop := 0 ≤ x ∧ x ≤ 16777216
def digC (e : UInt8) (x : Int) (r : List UInt8) : List UInt8 := decL x.toNat ++ e :: r
theorem dig_ur {e : UInt8} (he : isDg e = false) : UR NuP (digC e) := by
  intro x y r r' hx hy h
  have := dec_ur (c := e) (fun hd => by rw [isDg_dgB.2 hd] at he; cases he) h
  exact ⟨by have := hx.1; have := hy.1; omega, this.2⟩
theorem nu_ur : UR NuP numC := dig_ur (e := 44) (by decide)
theorem decA_acc : ∀ (f n : Nat) (acc : List UInt8), decA f n acc = decA f n [] ++ acc
  | 0, _, acc => by simp [decA]
  | f + 1, n, acc => by
    unfold decA
    split
    · rfl
    · rw [decA_acc f, decA_acc f _ [_], List.append_assoc]; rfl
theorem decA_fuel : ∀ (f f' n : Nat), n < f → n < f' → decA f n [] = decA f' n []
  | 0, _, _, h, _ => by omega
  | _, 0, _, _, h => by omega
  | f + 1, f' + 1, n, h, h' => by
    unfold decA
    split
    · rfl
    · rw [decA_acc f, decA_acc f', decA_fuel f f' (n / 10) (by omega) (by omega)]
theorem decL_step (n : Nat) : decL n = (if n / 10 = 0 then [] else decL (n / 10)) ++ [UInt8.ofNat (48 + n % 10)] := by
  unfold decL
  rw [decA]
  split
  · rfl
  · rw [decA_acc, decA_fuel n (n / 10 + 1) (n / 10) (by omega) (by omega)]
theorem dg_of {c : UInt8} (h : isDg c = true) : c.toNat - 48 < 10 ∧ UInt8.ofNat (48 + (c.toNat - 48)) = c := by
  unfold isDg at h
  simp only [Bool.and_eq_true, decide_eq_true_eq] at h
  refine ⟨by omega, ?_⟩
  rw [show 48 + (c.toNat - 48) = c.toNat by omega]
  exact UInt8.ofNat_toNat
theorem decL_snoc {v : Nat} {c : UInt8} (hc : isDg c = true) (hv : 0 < v) : decL (10 * v + (c.toNat - 48)) = decL v ++ [c] := by
  obtain ⟨h1, h2⟩ := dg_of hc
  rw [decL_step, show (10 * v + (c.toNat - 48)) / 10 = v by omega, show (10 * v + (c.toNat - 48)) % 10 = c.toNat - 48 by omega, if_neg (by omega), h2]
theorem decL_one {c : UInt8} (hc : isDg c = true) : decL (c.toNat - 48) = [c] := by
  obtain ⟨h1, h2⟩ := dg_of hc
  rw [decL_step, show (c.toNat - 48) / 10 = 0 by omega, if_pos rfl, show (c.toNat - 48) % 10 = c.toNat - 48 by omega, h2]
  rfl
theorem valD_app (x : Nat) (a b : List UInt8) : valD x (a ++ b) = valD (valD x a) b := List.foldl_append
theorem valD_ge : ∀ (l : List UInt8) (x : Nat), x ≤ valD x l
  | [], x => Nat.le_refl _
  | c :: l, x => by
    have := valD_ge l (10 * x + (c.toNat - 48))
    have e : valD x (c :: l) = valD (10 * x + (c.toNat - 48)) l := rfl
    rw [e]
    omega
theorem valD_pos {a : UInt8} {l : List UInt8} (ha : isDg a = true) (h : a ≠ 48) : 0 < valD 0 (a :: l) := by
  have h1 := valD_ge l (10 * 0 + (a.toNat - 48))
  have e : valD 0 (a :: l) = valD (10 * 0 + (a.toNat - 48)) l := rfl
  rw [e]
  unfold isDg at ha
  simp only [Bool.and_eq_true, decide_eq_true_eq] at ha
  have : a.toNat ≠ 48 := fun e => h (UInt8.toNat_inj.1 e)
  omega
/-- Digits without a 0 ahead are their number's. -/
theorem dec_val : ∀ (m : Nat) (D : List UInt8), D.length ≤ m → (∀ c ∈ D, isDg c = true) → (D.length = 1 ∨ ∃ a r, D = a :: r ∧ a ≠ 48) → decL (valD 0 D) = D
  | 0, D, h, _, h2 => by
    have h0 := List.eq_nil_of_length_eq_zero (Nat.le_zero.1 h)
    subst h0
    rcases h2 with h2 | ⟨a, r, h2, _⟩
    · cases h2
    · cases h2
  | m + 1, D, h, hd, h2 => by
    rcases List.eq_nil_or_concat D with h0 | ⟨D', c, h0⟩
    · subst h0
      rcases h2 with h2 | ⟨a, r, h2, _⟩
      · cases h2
      · cases h2
    · rw [List.concat_eq_append] at h0
      subst h0
      have hc : isDg c = true := hd c (by simp)
      have e : valD 0 (D' ++ [c]) = 10 * valD 0 D' + (c.toNat - 48) := by rw [valD_app]; rfl
      rw [e]
      cases D' with
      | nil =>
        have e0 : valD 0 [] = 0 := rfl
        rw [e0, Nat.mul_zero, Nat.zero_add, decL_one hc]
        rfl
      | cons a r =>
        rcases h2 with h2 | ⟨a', r', h2, h3⟩
        · simp at h2
        · rw [List.cons_append] at h2
          injection h2 with h4 h5
          subst h4
          have ha : isDg a = true := hd a (by simp)
          rw [decL_snoc hc (valD_pos ha h3), dec_val m (a :: r) (by simp at h ⊢; omega) (fun x hx => hd x (by simp at hx ⊢; rcases hx with hx | hx; exact .inl hx; exact .inr (.inl hx))) (.inr ⟨a, r, rfl, h3⟩)]
theorem decL_head : ∀ (m n : Nat), n ≤ m → 0 < n → ∃ a r, decL n = a :: r ∧ a ≠ 48
  | 0, n, h, h0 => by omega
  | m + 1, n, h, h0 => by
    rw [decL_step]
    split
    · refine ⟨_, [], rfl, fun e => ?_⟩
      have h1 := dg_nat (k := n % 10) (by omega)
      rw [e] at h1
      have h2 : (48 : UInt8).toNat = 48 := rfl
      omega
    · obtain ⟨a, r, h1, h2⟩ := decL_head m (n / 10) (by omega) (by omega)
      exact ⟨a, r ++ [UInt8.ofNat (48 + n % 10)], by rw [h1]; rfl, h2⟩
theorem decL_plain (n : Nat) : (decL n).length = 1 ∨ ∃ a r, decL n = a :: r ∧ a ≠ 48 := by
  rcases Nat.eq_zero_or_pos n with h | h
  · subst h; exact .inl (by decide)
  · exact .inr (decL_head n n (Nat.le_refl _) h)
theorem valD_take {l : List UInt8} (s : Nat) : valD 0 (l.take s) ≤ valD 0 l := by
  have h := valD_ge (l.drop s) (valD 0 (l.take s))
  rw [← valD_app, List.take_append_drop] at h
  exact h

theorem took_dig_yes {e : UInt8} {l : List UInt8} {b : Bool} {s : Nat} (hb : b = true → l = []) (hd : ∀ j c, j < s → l[j]? = some c → isDg c = true) (hp : s = 1 ∨ (1 < s ∧ l[0]? ≠ some 48)) (hn : valD 0 (l.take s) ≤ 16777216) (hc : l[s]? = some e) : Took NuP (digC e) l b ((valD 0 (l.take s) : Nat) : Int) (l.drop (s + 1)) b := by
  have hs := (List.getElem?_eq_some_iff.1 hc).1
  refine ⟨fun e0 => ⟨e0, ⟨by omega, by omega⟩, ?_⟩, fun e0 => ?_⟩
  · unfold digC
    rw [Int.toNat_natCast, dec_val (l.take s).length (l.take s) (Nat.le_refl _) (fun c hc => ?_) ?_]
    · have h1 := List.drop_eq_getElem_cons hs
      rw [(List.getElem?_eq_some_iff.1 hc).2] at h1
      rw [← h1, List.take_append_drop]
    · rcases hp with hp | ⟨hp, h0⟩
      · left; rw [List.length_take]; omega
      · right
        cases l with
        | nil => simp at hs
        | cons a r =>
          obtain ⟨k, rfl⟩ : ∃ k, s = k + 1 := ⟨s - 1, by omega⟩
          exact ⟨a, r.take k, rfl, fun e => h0 (by rw [e]; rfl)⟩
    · obtain ⟨j, hj⟩ := List.mem_iff_getElem?.1 hc
      rw [List.getElem?_take] at hj
      split at hj
      · exact hd j c (by assumption) hj
      · cases hj
  · have := hb e0
    rw [this] at hs
    simp at hs
theorem took_dig_no {e : UInt8} (he : isDg e = false) {l : List UInt8} {b : Bool} {s : Nat} (hd : ∀ j c, j < s → l[j]? = some c → isDg c = true) (hx : 16777216 < valD 0 (l.take s) ∨ l.length = s ∨ ∃ c, l[s]? = some c ∧ isDg c = false)
    (h : ¬ ((s = 1 ∨ (1 < s ∧ l[0]? ≠ some 48)) ∧ valD 0 (l.take s) ≤ 16777216 ∧ l[s]? = some e)) : Took NuP (digC e) l b 0 [] true := by
  refine ⟨fun e => (by cases e), fun _ => .inr ?_⟩
  rintro ⟨x, r, ⟨x0, x1⟩, hl⟩
  obtain ⟨n, rfl⟩ := Int.eq_ofNat_of_zero_le x0
  unfold digC at hl
  rw [Int.toNat_natCast] at hl
  have hL : l[(decL n).length]? = some e := by rw [hl, List.getElem?_append_right (Nat.le_refl _), Nat.sub_self]; rfl
  have hsL : s ≤ (decL n).length := by
    rcases Nat.lt_or_ge (decL n).length s with h1 | h1
    · have := hd _ e h1 hL
      rw [he] at this
      cases this
    · exact h1
  have ht : l.take s = (decL n).take s := by rw [hl, List.take_append_of_le_length hsL]
  have hv : valD 0 (l.take s) ≤ n := by
    rw [ht]
    have := valD_take (l := decL n) s
    rw [decL_val] at this
    exact this
  have hsE : s = (decL n).length := by
    rcases Nat.lt_or_ge s (decL n).length with h1 | h1
    · rcases hx with hx | hx | ⟨c, hc, hx⟩
      · omega
      · rw [hl] at hx; simp at hx; omega
      · rw [hl, List.getElem?_append_left h1] at hc
        have := isDg_dgB.2 (decL_dg n c (List.mem_of_getElem? hc))
        rw [hx] at this
        cases this
    · omega
  refine h ⟨?_, by omega, by rw [hsE]; exact hL⟩
  rcases decL_plain n with h1 | ⟨a, q, h1, h2⟩
  · exact .inl (by omega)
  · rcases Nat.lt_or_ge 1 (decL n).length with h3 | h3
    · right
      refine ⟨by omega, ?_⟩
      rw [hl, h1]
      intro e
      injection e with e
      exact h2 e
    · left
      have : (decL n).length ≠ 0 := by rw [h1]; simp
      omega

theorem qvalD_snoc {l : List UInt8} {k : Nat} {c : UInt8} (h : l[k]? = some c) : valD 0 (l.take (k + 1)) = 10 * valD 0 (l.take k) + (c.toNat - 48) := by
  rw [List.take_add_one, h, valD_app]
  rfl

/-! Texts -/
def QStrP (z : ByteArray) : Prop := z.size ≤ 16777216
def strF (z : ByteArray) (r : List UInt8) : List UInt8 := strC (bytesOf z) r
theorem strF_ur : UR QStrP strF := by
  intro x y r r' _ _ h
  have := str_ur _ _ _ _ trivial trivial h
  exact ⟨bytes_inj this.1, this.2⟩
theorem strF_dig (z : ByteArray) (r : List UInt8) : strF z r = digC 58 (z.size : Int) (bytesOf z ++ r) := by
  unfold strF strC digC
  rw [Int.toNat_natCast]
  simp [bytesOf]
theorem took_str_no {l l1 : List UInt8} {b b1 : Bool} {n : Nat} (h : Took NuP (digC 58) l b (n : Int) l1 b1) (hn : l1.length < n) (x : ByteArray) : Took QStrP strF l b x [] true := by
  refine ⟨fun e => (by cases e), fun _ => ?_⟩
  cases b1 with
  | true =>
    rcases h.2 rfl with h | h
    · exact .inl h
    · exact .inr (fun ⟨z, r, hz, hl⟩ => h ⟨_, _, ⟨by omega, by unfold QStrP at hz; omega⟩, hl.trans (strF_dig z r)⟩)
  | false =>
    obtain ⟨e0, hx, hl0⟩ := h.1 rfl
    refine .inr (fun ⟨z, r, hz, hl⟩ => ?_)
    obtain ⟨e1, e2⟩ := dig_ur (by decide) _ _ _ _ hx ⟨by omega, by unfold QStrP at hz; omega⟩ (hl0.symm.trans (hl.trans (strF_dig z r)))
    have h1 : (bytesOf z).length = z.size := by simp [bytesOf]
    rw [e2, List.length_append, h1] at hn
    omega
theorem took_str_yes {l l1 l' : List UInt8} {b b1 : Bool} {n : Nat} (h : Took NuP (digC 58) l b (n : Int) l1 b1) {z : ByteArray} (hz : bytesOf z = l1.take n) (hn : n ≤ l1.length) (hl' : l' = l1.drop n) : Took QStrP strF l b z l' b1 := by
  have h1 : (bytesOf z).length = z.size := by simp [bytesOf]
  have h2 : z.size = n := by rw [← h1, hz, List.length_take]; omega
  refine ⟨fun e => ?_, fun e => ?_⟩
  · obtain ⟨e0, hx, hl0⟩ := h.1 e
    refine ⟨e0, by unfold QStrP; have := hx.2; omega, ?_⟩
    rw [strF_dig, hz, hl', List.take_append_drop, h2]
    exact hl0
  · rcases h.2 e with h | h
    · exact .inl h
    · exact .inr (fun ⟨z, r, hz, hl⟩ => h ⟨_, _, ⟨by omega, by unfold QStrP at hz; omega⟩, hl.trans (strF_dig z r)⟩)

/-! Truth -/
def truC (t : Bool) (r : List UInt8) : List UInt8 := numC (if t then 1 else 0) r
theorem tru_ur : UR (fun _ => True) truC := by
  intro x y r r' _ _ h
  have := nu_ur _ _ _ _ (by unfold NuP; split <;> decide) (by unfold NuP; split <;> decide) h
  refine ⟨?_, this.2⟩
  have := this.1
  cases x <;> cases y <;> simp at this <;> rfl
theorem took_tru_no {l l1 : List UInt8} {b b1 : Bool} {n : Nat} (h : Took NuP numC l b (n : Int) l1 b1) (hn : 1 < n) (x : Bool) : Took (fun _ => True) truC l b x [] true := by
  refine ⟨fun e => (by cases e), fun _ => ?_⟩
  cases b1 with
  | true =>
    rcases h.2 rfl with h | h
    · exact .inl h
    · exact .inr (fun ⟨z, r, hz, hl⟩ => h ⟨_, _, by unfold NuP; split <;> decide, hl⟩)
  | false =>
    obtain ⟨e0, hx, hl0⟩ := h.1 rfl
    refine .inr (fun ⟨z, r, hz, hl⟩ => ?_)
    have := (nu_ur _ _ _ _ hx (by unfold NuP; split <;> decide) (hl0.symm.trans hl)).1
    split at this <;> omega
theorem took_tru_yes {l l1 : List UInt8} {b b1 : Bool} {n : Nat} (h : Took NuP numC l b (n : Int) l1 b1) (hn : n ≤ 1) {x : Bool} (hx : x = decide (n = 1)) : Took (fun _ => True) truC l b x l1 b1 := by
  have e1 : (if x = true then 1 else 0 : Int) = n := by
    rcases Nat.le_one_iff_eq_zero_or_eq_one.1 hn with h | h <;> subst h <;> subst hx <;> rfl
  refine ⟨fun e => ?_, fun e => ?_⟩
  · obtain ⟨e0, hx, hl0⟩ := h.1 e
    refine ⟨e0, trivial, ?_⟩
    unfold truC
    rw [e1]
    exact hl0
  · rcases h.2 e with h | h
    · exact .inl h
    · exact .inr (fun ⟨z, r, hz, hl⟩ => h ⟨_, _, by unfold NuP; split <;> decide, hl⟩)

/-! Lists -/
def LiP {α : Type} (P : α → Prop) (xs : List α) : Prop := (∀ x ∈ xs, P x) ∧ xs.length ≤ 16777216
/-- A list that is being taken. -/
def TakI {α : Type} (P : α → Prop) (f : α → List UInt8 → List UInt8) (l : List UInt8) (b : Bool) (N : Nat) (acc : List α) (l' : List UInt8) (b' : Bool) : Prop :=
  (b' = false → b = false ∧ l = numC N (rowC f acc l') ∧ (∀ x ∈ acc, P x) ∧ acc.length ≤ N) ∧ (b' = true → b = true ∨ ¬ ∃ xs r, LiP P xs ∧ l = listC f xs r)
theorem li_ur {α : Type} {P : α → Prop} {f : α → List UInt8 → List UInt8} (h : UR P f) : UR (LiP P) (listC f) := (list_ur h).mono (fun _ hx => hx.1)
theorem taki_start {α : Type} {P : α → Prop} {f : α → List UInt8 → List UInt8} {l l1 : List UInt8} {b b1 : Bool} {N : Nat} (h : Took NuP numC l b (N : Int) l1 b1) : TakI P f l b N [] l1 b1 := by
  refine ⟨fun e => ?_, fun e => ?_⟩
  · obtain ⟨e0, hx, hl⟩ := h.1 e
    exact ⟨e0, hl, (by intro x hx; cases hx), Nat.zero_le _⟩
  · rcases h.2 e with h | h
    · exact .inl h
    · exact .inr (fun ⟨xs, r, hx, hl⟩ => h ⟨(xs.length : Int), _, ⟨by omega, by have := hx.2; omega⟩, hl⟩)
theorem rowC_app {α : Type} (f : α → List UInt8 → List UInt8) (a b : List α) (r : List UInt8) : rowC f (a ++ b) r = rowC f a (rowC f b r) := List.foldr_append
theorem TakI.step {α : Type} {P : α → Prop} {f : α → List UInt8 → List UInt8} (hf : UR P f) {l l' l2 : List UInt8} {b b2 : Bool} {N : Nat} {acc : List α} {x : α} (h : TakI P f l b N acc l' false) (hN : N ≤ 16777216) (hlt : acc.length < N) (hx : Took P f l' false x l2 b2) : TakI P f l b N (acc ++ [x]) l2 b2 := by
  obtain ⟨e0, hl, ha, hle⟩ := h.1 rfl
  refine ⟨fun e => ?_, fun e => ?_⟩
  · obtain ⟨_, hp, rfl⟩ := hx.1 e
    refine ⟨e0, ?_, fun y hy => ?_, by rw [List.length_append, List.length_singleton]; omega⟩
    · rw [rowC_app]; exact hl
    · rcases List.mem_append.1 hy with hy | hy
      · exact ha y hy
      · rw [List.mem_singleton.1 hy]; exact hp
  · rcases hx.2 e with h | h
    · cases h
    · refine .inr (fun ⟨xs, r, hxs, hl2⟩ => h ?_)
      obtain ⟨e1, e2⟩ := nu_ur _ _ _ _ ⟨by omega, by omega⟩ ⟨by omega, by have := hxs.2; omega⟩ (hl.symm.trans hl2)
      have hN2 : xs.length = N := by omega
      obtain ⟨x1, hx1⟩ : ∃ x1, xs[acc.length]? = some x1 := ⟨_, List.getElem?_eq_getElem (by omega)⟩
      have hsplit : xs = xs.take acc.length ++ x1 :: xs.drop (acc.length + 1) := by
        have h3 := List.drop_eq_getElem_cons (l := xs) (i := acc.length) (by omega)
        rw [(List.getElem?_eq_some_iff.1 hx1).2] at h3
        rw [← h3, List.take_append_drop]
      rw [hsplit, rowC_app] at e2
      have h4 := (row_ur hf acc (xs.take acc.length) _ _ (by rw [List.length_take]; omega) ha (fun y hy => hxs.1 y (List.mem_of_mem_take hy)) e2).2
      exact ⟨x1, _, hxs.1 x1 (List.mem_of_getElem? hx1), h4⟩
theorem TakI.done {α : Type} {P : α → Prop} {f : α → List UInt8 → List UInt8} {l l' : List UInt8} {b b' : Bool} {N : Nat} {acc : List α} (h : TakI P f l b N acc l' b') (hN : N ≤ 16777216) (hd : b' = true ∨ N ≤ acc.length) : Took (LiP P) (listC f) l b acc l' b' := by
  refine ⟨fun e => ?_, h.2⟩
  obtain ⟨e0, hl, ha, hle⟩ := h.1 e
  have e1 : acc.length = N := by
    rcases hd with hd | hd
    · rw [e] at hd; cases hd
    · omega
  refine ⟨e0, ⟨ha, by omega⟩, ?_⟩
  unfold listC
  rw [e1]
  exact hl

/-! Pieces, steps, nodes, entries -/
def QCp (c : C) : Prop := (c.k = 1 ∧ c.n = 0 ∧ QStrP c.t) ∨ ((c.k = 0 ∨ c.k = 2) ∧ NuP c.n ∧ c.t = ⟨#[]⟩)
def QSt (s : St) : Prop := NuP s.kd ∧ NuP s.id ∧ NuP s.nd ∧ NuP s.fr ∧ NuP (St.to s) ∧ LiP NuP s.kids
def QNd (x : Nd) : Prop := NuP x.id ∧ NuP x.kd ∧ NuP x.fr ∧ NuP (Nd.to x) ∧ LiP NuP x.kids
def QEn (e : En) : Prop := NuP e.cl ∧ NuP e.sq ∧ LiP QCp e.ed ∧ LiP QSt e.dl
theorem nus_ok {l : List Int} (h : LiP NuP l) : NumsOk l := fun x hx => (h.1 x hx).1
theorem cp_ok {c : C} (h : QCp c) : CpOk c := by
  rcases h with ⟨h1, h2, h3⟩ | ⟨h1, h2, h3⟩
  · exact .inl ⟨h1, h2⟩
  · exact .inr ⟨h1, h2.1, h3⟩
theorem st_ok {s : St} (h : QSt s) : StOk s := ⟨h.1.1, h.2.1.1, h.2.2.1.1, h.2.2.2.1.1, h.2.2.2.2.1.1, nus_ok h.2.2.2.2.2⟩
theorem nd_ok {s : Nd} (h : QNd s) : NdOk s := ⟨h.1.1, h.2.1.1, h.2.2.1.1, h.2.2.2.1.1, nus_ok h.2.2.2.2⟩
theorem en_ok {e : En} (h : QEn e) : EnOk e := ⟨h.1.1, h.2.1.1, fun c hc => cp_ok (h.2.2.1.1 c hc), fun s hs => st_ok (h.2.2.2.1 s hs)⟩
theorem cp_ur : UR QCp compC := comp_ur.mono (fun _ => cp_ok)
theorem st_ur : UR QSt stepC := step_ur.mono (fun _ => st_ok)
theorem nd_ur : UR QNd nodeC := node_ur.mono (fun _ => nd_ok)
theorem en_ur : UR QEn entC := ent_ur.mono (fun _ => en_ok)
def lsC : List UInt8 := [107, 112, 99]
theorem comp_letC (c : C) (r : List UInt8) (h : QCp c) : ∃ r', compC c r = letC lsC c.k r' := by
  unfold compC
  rcases h with ⟨h1, _⟩ | ⟨h1 | h1, _⟩
  · rw [if_pos h1, h1]; exact ⟨_, rfl⟩
  · rw [if_neg (by omega), if_pos h1, h1]; exact ⟨_, rfl⟩
  · rw [if_neg (by omega), if_neg (by omega), h1]; exact ⟨_, rfl⟩
theorem comp_idx (c : C) (h : QCp c) : LeP lsC c.k := by
  unfold LeP
  have : (lsC.length : Int) = 3 := rfl
  rw [this]
  rcases h with ⟨h1, _⟩ | ⟨h1 | h1, _⟩ <;> omega
theorem took_put {l l1 l2 : List UInt8} {b b1 b2 : Bool} {z : ByteArray} (h1 : Took (LeP lsC) (letC lsC) l b 1 l1 b1) (h2 : Took QStrP strF l1 b1 z l2 b2) : Took QCp compC l b ⟨1, 0, z⟩ l2 b2 := by
  refine Took.kind (by decide) C.k comp_idx h1 h2 (fun z => (⟨1, 0, z⟩ : C)) (fun x hx => ⟨.inl ⟨rfl, rfl, hx⟩, fun r => ?_⟩) (fun y hy hk => ?_) (fun y r hy => comp_letC y r hy)
  · unfold compC; rw [if_pos rfl]; rfl
  · obtain ⟨k, n, t⟩ := y
    simp only at hk
    subst hk
    rcases hy with ⟨h1, h2, h3⟩ | ⟨h1 | h1, _⟩
    · simp only at h2; subst h2; exact ⟨t, h3, rfl⟩
    · simp at h1
    · simp at h1
theorem took_plain {l l1 l2 : List UInt8} {b b1 b2 : Bool} {k n : Int} (hk : k = 0 ∨ k = 2) (h1 : Took (LeP lsC) (letC lsC) l b k l1 b1) (h2 : Took NuP numC l1 b1 n l2 b2) : Took QCp compC l b ⟨k, n, ⟨#[]⟩⟩ l2 b2 := by
  refine Took.kind (by decide) C.k comp_idx h1 h2 (fun n => (⟨k, n, ⟨#[]⟩⟩ : C)) (fun x hx => ⟨.inr ⟨hk, hx, rfl⟩, fun r => ?_⟩) (fun y hy hk2 => ?_) (fun y r hy => comp_letC y r hy)
  · unfold compC
    rcases hk with rfl | rfl
    · rfl
    · rfl
  · obtain ⟨k', n', t⟩ := y
    simp only at hk2
    subst hk2
    rcases hy with ⟨h1, h2, h3⟩ | ⟨_, h2, h3⟩
    · simp only at h1; omega
    · simp only at h3; subst h3; exact ⟨n', h2, rfl⟩
theorem took_step {l l1 l2 l3 l4 l5 l6 : List UInt8} {b b1 b2 b3 b4 b5 b6 : Bool} {x1 x2 x3 x4 x5 : Int} {ks : List Int} (h1 : Took NuP numC l b x1 l1 b1) (h2 : Took NuP numC l1 b1 x2 l2 b2) (h3 : Took NuP numC l2 b2 x3 l3 b3) (h4 : Took NuP numC l3 b3 x4 l4 b4) (h5 : Took NuP numC l4 b4 x5 l5 b5) (h6 : Took (LiP NuP) (listC numC) l5 b5 ks l6 b6) : Took QSt stepC l b ⟨x1, x2, x3, x4, x5, ks⟩ l6 b6 :=
  (Took.seq nu_ur h1 (Took.seq nu_ur h2 (Took.seq nu_ur h3 (Took.seq nu_ur h4 (Took.seq nu_ur h5 h6))))).map (fun p => (⟨p.1, p.2.1, p.2.2.1, p.2.2.2.1, p.2.2.2.2.1, p.2.2.2.2.2⟩ : St)) (fun _ hx => ⟨hx, fun _ => rfl⟩) (fun y hy => ⟨(y.kd, y.id, y.nd, y.fr, St.to y, y.kids), hy, rfl⟩)
theorem took_node {l l1 l2 l3 l4 l6 : List UInt8} {b b1 b2 b3 b4 b6 : Bool} {x1 x2 x3 x4 : Int} {ks : List Int} (h1 : Took NuP numC l b x1 l1 b1) (h2 : Took NuP numC l1 b1 x2 l2 b2) (h3 : Took NuP numC l2 b2 x3 l3 b3) (h4 : Took NuP numC l3 b3 x4 l4 b4) (h6 : Took (LiP NuP) (listC numC) l4 b4 ks l6 b6) : Took QNd nodeC l b ⟨x1, x2, x3, x4, ks⟩ l6 b6 :=
  (Took.seq nu_ur h1 (Took.seq nu_ur h2 (Took.seq nu_ur h3 (Took.seq nu_ur h4 h6)))).map (fun p => (⟨p.1, p.2.1, p.2.2.1, p.2.2.2.1, p.2.2.2.2⟩ : Nd)) (fun _ hx => ⟨hx, fun _ => rfl⟩) (fun y hy => ⟨(y.id, y.kd, y.fr, Nd.to y, y.kids), hy, rfl⟩)
theorem took_entry {l l1 l2 l3 l4 : List UInt8} {b b1 b2 b3 b4 : Bool} {x1 x2 : Int} {ed : List C} {dl : List St} (h1 : Took NuP numC l b x1 l1 b1) (h2 : Took NuP numC l1 b1 x2 l2 b2) (h3 : Took (LiP QCp) (listC compC) l2 b2 ed l3 b3) (h4 : Took (LiP QSt) (listC stepC) l3 b3 dl l4 b4) : Took QEn entC l b ⟨x1, x2, ed, dl⟩ l4 b4 :=
  (Took.seq nu_ur h1 (Took.seq nu_ur h2 (Took.seq (li_ur cp_ur) h3 h4))).map (fun p => (⟨p.1, p.2.1, p.2.2.1, p.2.2.2⟩ : En)) (fun _ hx => ⟨hx, fun _ => rfl⟩) (fun y hy => ⟨(y.cl, y.sq, y.ed, y.dl), hy, rfl⟩)
/-- A tree, told as what it is. -/
def TrP (t : Int × Int × List Nd) : Prop := NuP t.1 ∧ NuP t.2.1 ∧ LiP QNd t.2.2
def trF (t : Int × Int × List Nd) (r : List UInt8) : List UInt8 := treeC t.1 t.2.1 t.2.2 r
theorem took_tree {l l1 l2 l3 : List UInt8} {b b1 b2 b3 : Bool} {x1 x2 : Int} {ns : List Nd} (h1 : Took NuP numC l b x1 l1 b1) (h2 : Took NuP numC l1 b1 x2 l2 b2) (h3 : Took (LiP QNd) (listC nodeC) l2 b2 ns l3 b3) : Took TrP trF l b (x1, x2, ns) l3 b3 := Took.seq nu_ur h1 (Took.seq nu_ur h2 h3)

/-! Messages -/
def lsM : List UInt8 := [80, 67, 83]
def QMs (m : Ms) : Prop := NuP m.cl ∧ NuP m.rv ∧
  ((m.kd = 0 ∧ NuP m.sq ∧ m.fr = 0 ∧ m.ls = 0 ∧ m.rf = false ∧ m.tx = ⟨#[]⟩ ∧ m.ro = 0 ∧ m.nx = 0 ∧ m.ns = [] ∧ m.es = [] ∧ LiP QCp m.ed)
  ∨ (m.kd = 1 ∧ m.sq = 0 ∧ m.fr = 0 ∧ m.ls = 0 ∧ m.rf = false ∧ m.tx = ⟨#[]⟩ ∧ m.ro = 0 ∧ m.nx = 0 ∧ m.ns = [] ∧ m.ed = [] ∧ LiP QEn m.es)
  ∨ (m.kd = 2 ∧ NuP m.sq ∧ NuP m.fr ∧ NuP m.ls ∧ QStrP m.tx ∧ TrP (m.ro, m.nx, m.ns) ∧ m.ed = [] ∧ m.es = []))
theorem ms_ok {m : Ms} (h : QMs m) : MsOk m := by
  obtain ⟨h1, h2, h⟩ := h
  rcases h with ⟨a1, a2, a3, a4, a5, a6, a7, a8, a9, a10, a11⟩ | ⟨a1, a2, a3, a4, a5, a6, a7, a8, a9, a10, a11⟩ | ⟨a1, a2, a3, a4, a5, a6, a7, a8⟩
  · exact ⟨h1.1, h2.1, a2.1, .inl ⟨a1, a3, a4, a5, a6, a7, a8, a9, a10, fun c hc => cp_ok (a11.1 c hc)⟩⟩
  · exact ⟨h1.1, h2.1, by rw [a2]; decide, .inr (.inl ⟨a1, a2, a3, a4, a5, a6, a7, a8, a9, a10, fun c hc => en_ok (a11.1 c hc)⟩)⟩
  · exact ⟨h1.1, h2.1, a2.1, .inr (.inr ⟨a1, a3.1, a4.1, a6.1.1, a6.2.1.1, a7, a8, fun x hx => nd_ok (a6.2.2.1 x hx)⟩)⟩
theorem ms_ur : UR QMs msgC := msg_ur.mono (fun _ => ms_ok)
theorem ms_idx (m : Ms) (h : QMs m) : LeP lsM m.kd := by
  unfold LeP
  have : (lsM.length : Int) = 3 := rfl
  rw [this]
  rcases h.2.2 with h | h | h <;> have := h.1 <;> omega
theorem ms_letC (m : Ms) (r : List UInt8) (h : QMs m) : ∃ r', msgC m r = letC lsM m.kd r' := by
  unfold msgC
  rcases h.2.2 with h | h | h
  · rw [if_pos h.1, h.1]; exact ⟨_, rfl⟩
  · rw [if_neg (by rw [h.1]; decide), if_pos h.1, h.1]; exact ⟨_, rfl⟩
  · rw [if_neg (by rw [h.1]; decide), if_neg (by rw [h.1]; decide), h.1]; exact ⟨_, rfl⟩
theorem took_poll {l l0 l1 l2 l3 l4 : List UInt8} {b b0 b1 b2 b3 b4 : Bool} {x1 x2 x3 : Int} {ed : List C} (h0 : Took (LeP lsM) (letC lsM) l b 0 l0 b0) (h1 : Took NuP numC l0 b0 x1 l1 b1) (h2 : Took NuP numC l1 b1 x2 l2 b2) (h3 : Took NuP numC l2 b2 x3 l3 b3) (h4 : Took (LiP QCp) (listC compC) l3 b3 ed l4 b4) : Took QMs msgC l b ⟨0, x1, x2, x3, 0, 0, false, ⟨#[]⟩, 0, 0, [], ed, []⟩ l4 b4 := by
  refine Took.kind (by decide) Ms.kd ms_idx h0 (Took.seq nu_ur h1 (Took.seq nu_ur h2 (Took.seq nu_ur h3 h4))) (fun p => (⟨0, p.1, p.2.1, p.2.2.1, 0, 0, false, ⟨#[]⟩, 0, 0, [], p.2.2.2, []⟩ : Ms)) (fun x hx => ⟨⟨hx.1, hx.2.1, .inl ⟨rfl, hx.2.2.1, rfl, rfl, rfl, rfl, rfl, rfl, rfl, rfl, hx.2.2.2⟩⟩, fun r => rfl⟩) (fun y hy hk => ?_) (fun y r hy => ms_letC y r hy)
  obtain ⟨kd, cl, rv, sq, fr, ls, rf, tx, ro, nx, ns, ed, es⟩ := y
  obtain ⟨h1, h2, h⟩ := hy
  simp only at hk h h1 h2
  subst hk
  rcases h with ⟨_, a2, rfl, rfl, rfl, rfl, rfl, rfl, rfl, rfl, a11⟩ | ⟨a1, _⟩ | ⟨a1, _⟩
  · exact ⟨(cl, rv, sq, ed), ⟨h1, h2, a2, a11⟩, rfl⟩
  · cases a1
  · cases a1
theorem took_changes {l l0 l1 l2 l4 : List UInt8} {b b0 b1 b2 b4 : Bool} {x1 x2 : Int} {es : List En} (h0 : Took (LeP lsM) (letC lsM) l b 1 l0 b0) (h1 : Took NuP numC l0 b0 x1 l1 b1) (h2 : Took NuP numC l1 b1 x2 l2 b2) (h4 : Took (LiP QEn) (listC entC) l2 b2 es l4 b4) : Took QMs msgC l b ⟨1, x1, x2, 0, 0, 0, false, ⟨#[]⟩, 0, 0, [], [], es⟩ l4 b4 := by
  refine Took.kind (by decide) Ms.kd ms_idx h0 (Took.seq nu_ur h1 (Took.seq nu_ur h2 h4)) (fun p => (⟨1, p.1, p.2.1, 0, 0, 0, false, ⟨#[]⟩, 0, 0, [], [], p.2.2⟩ : Ms)) (fun x hx => ⟨⟨hx.1, hx.2.1, .inr (.inl ⟨rfl, rfl, rfl, rfl, rfl, rfl, rfl, rfl, rfl, rfl, hx.2.2⟩)⟩, fun r => rfl⟩) (fun y hy hk => ?_) (fun y r hy => ms_letC y r hy)
  obtain ⟨kd, cl, rv, sq, fr, ls, rf, tx, ro, nx, ns, ed, es⟩ := y
  obtain ⟨h1, h2, h⟩ := hy
  simp only at hk h h1 h2
  subst hk
  rcases h with ⟨a1, _⟩ | ⟨_, rfl, rfl, rfl, rfl, rfl, rfl, rfl, rfl, rfl, a11⟩ | ⟨a1, _⟩
  · cases a1
  · exact ⟨(cl, rv, es), ⟨h1, h2, a11⟩, rfl⟩
  · cases a1
theorem took_snap {l l0 l1 l2 l3 l4 l5 l6 l7 l8 : List UInt8} {b b0 b1 b2 b3 b4 b5 b6 b7 b8 : Bool} {x1 x2 x3 x4 x5 ro nx : Int} {t : Bool} {z : ByteArray} {ns : List Nd} (h0 : Took (LeP lsM) (letC lsM) l b 2 l0 b0) (h1 : Took NuP numC l0 b0 x1 l1 b1) (h2 : Took NuP numC l1 b1 x2 l2 b2) (h3 : Took NuP numC l2 b2 x3 l3 b3) (h4 : Took NuP numC l3 b3 x4 l4 b4) (h5 : Took NuP numC l4 b4 x5 l5 b5) (h6 : Took (fun _ => True) truC l5 b5 t l6 b6) (h7 : Took QStrP strF l6 b6 z l7 b7) (h8 : Took TrP trF l7 b7 (ro, nx, ns) l8 b8) : Took QMs msgC l b ⟨2, x1, x2, x3, x4, x5, t, z, ro, nx, ns, [], []⟩ l8 b8 := by
  refine Took.kind (by decide) Ms.kd ms_idx h0 (Took.seq nu_ur h1 (Took.seq nu_ur h2 (Took.seq nu_ur h3 (Took.seq nu_ur h4 (Took.seq nu_ur h5 (Took.seq tru_ur h6 (Took.seq strF_ur h7 h8))))))) (fun p => (⟨2, p.1, p.2.1, p.2.2.1, p.2.2.2.1, p.2.2.2.2.1, p.2.2.2.2.2.1, p.2.2.2.2.2.2.1, p.2.2.2.2.2.2.2.1, p.2.2.2.2.2.2.2.2.1, p.2.2.2.2.2.2.2.2.2, [], []⟩ : Ms)) (fun x hx => ⟨⟨hx.1, hx.2.1, .inr (.inr ⟨rfl, hx.2.2.1, hx.2.2.2.1, hx.2.2.2.2.1, hx.2.2.2.2.2.2.1, hx.2.2.2.2.2.2.2, rfl, rfl⟩)⟩, fun r => rfl⟩) (fun y hy hk => ?_) (fun y r hy => ms_letC y r hy)
  obtain ⟨kd, cl, rv, sq, fr, ls, rf, tx, ro, nx, ns, ed, es⟩ := y
  obtain ⟨h1, h2, h⟩ := hy
  simp only at hk h h1 h2
  subst hk
  rcases h with ⟨a1, _⟩ | ⟨a1, _⟩ | ⟨_, a2, a3, a4, a5, a6, rfl, rfl⟩
  · cases a1
  · cases a1
  · exact ⟨(cl, rv, sq, fr, ls, rf, tx, ro, nx, ns), ⟨h1, h2, a2, a3, a4, trivial, a5, a6⟩, rfl⟩

end Go.Proofs.YtjmfjlffcopnnaaGreatDoor
