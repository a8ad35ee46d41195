/-
  PsC, Ps9, PsA, Par, in one text. Conditions: as each theorem's premises say.
-/
import Derived.Test.YtjmfjlffcopnnaaDoorPsB
import Derived.Deep.RegionLawGrows
namespace Go.Proofs.YtjmfjlffcopnnaaDoor
open Go.RowKit

def nid (i : Nat) : Int := (i : Int)
/-- A forest is added below a node. -/
def gro (ns : List Nd) (id : Nat) (F : Fo) : List Nd := ns.modify id (fun m => ⟨m.id, m.kd, m.fr, Nd.to m, m.kids ++ F.ids nid ns.length⟩) ++ F.flat nid ns.length
theorem gro_def (ns : List Nd) (id : Nat) (F : Fo) : gro ns id F = ns.modify id (fun m => ⟨m.id, m.kd, m.fr, Nd.to m, m.kids ++ F.ids nid ns.length⟩) ++ F.flat nid ns.length := rfl
theorem flat_cons (kd fr tt : Nat) (k r : Fo) (b : Nat) : (Fo.cons kd fr tt k r).flat nid b = ⟨nid b, kd, fr, tt, k.ids nid (b + 1)⟩ :: (k.flat nid (b + 1) ++ r.flat nid (b + 1 + k.size)) := rfl
theorem mod_id (ns : List Nd) (id : Nat) (f : Nd → Nd) (hf : ∀ m, f m = m) : ns.modify id f = ns := by
  apply List.ext_getElem?
  intro j
  rw [List.getElem?_modify]
  cases ns[j]? with
  | none => rfl
  | some m => simp [hf]
theorem gro_nil (ns : List Nd) (id : Nat) : gro ns id .nil = ns := by
  unfold gro
  rw [mod_id _ _ _ (fun m => by simp [Fo.ids])]
  simp [Fo.flat]
theorem gro_len (ns : List Nd) (id : Nat) (F : Fo) : (gro ns id F).length = ns.length + F.size := by
  unfold gro; rw [List.length_append, List.length_modify, Fo.flat_len]
theorem mod_app_left (a b : List Nd) (id : Nat) (f : Nd → Nd) (h : id < a.length) : (a ++ b).modify id f = a.modify id f ++ b := by
  apply List.ext_getElem?
  intro j
  rw [List.getElem?_modify]
  by_cases hj : j < a.length
  · rw [List.getElem?_append_left hj, List.getElem?_append_left (by rw [List.length_modify]; exact hj), List.getElem?_modify]
  · rw [List.getElem?_append_right (by omega), List.getElem?_append_right (by rw [List.length_modify]; omega), List.length_modify]
    cases b[j - a.length]? with
    | none => rfl
    | some m => simp; intro e; omega
theorem mod_mod (a : List Nd) (id : Nat) (f g : Nd → Nd) : (a.modify id f).modify id g = a.modify id (fun m => g (f m)) := by
  apply List.ext_getElem?
  intro j
  rw [List.getElem?_modify, List.getElem?_modify, List.getElem?_modify]
  cases a[j]? with
  | none => rfl
  | some m => by_cases e : id = j <;> simp [e]
theorem gro_app (ns : List Nd) (id : Nat) (h : id < ns.length) (F T : Fo) : gro (gro ns id F) id T = gro ns id (F.app T) := by
  rw [gro_def (gro ns id F) id T, gro_len, gro_def ns id F, gro_def ns id (F.app T), mod_app_left _ _ _ _ (by rw [List.length_modify]; exact h), mod_mod, Fo.ids_app, Fo.flat_app]
  simp only [List.append_assoc]
theorem gro_get {ns : List Nd} {id : Nat} {m : Nd} (h : ns[id]? = some m) (F : Fo) : (gro ns id F)[id]? = some ⟨m.id, m.kd, m.fr, Nd.to m, m.kids ++ F.ids nid ns.length⟩ := by
  have hl := (List.getElem?_eq_some_iff.1 h).1
  unfold gro
  rw [List.getElem?_append_left (by rw [List.length_modify]; exact hl), List.getElem?_modify, h]
  simp
theorem ids_le (F : Fo) (b : Nat) : (F.ids nid b).length ≤ F.size := by
  induction F generalizing b with
  | nil => exact Nat.le_refl _
  | cons kd fr tt k r _ ih => simp only [Fo.ids, List.length_cons, Fo.size]; have := ih (b + 1 + k.size); omega
/-- A tree made behind all others, then added below a node. -/
theorem kid_tree (ns : List Nd) (id : Nat) (h : id < ns.length) (kd fr tt : Nat) (k : Fo) : kidN (ns ++ (Fo.cons kd fr tt k .nil).flat nid ns.length) id ns.length = gro ns id (.cons kd fr tt k .nil) := by
  unfold kidN
  rw [mod_app_left _ _ _ _ h]
  rfl
/-- A node made, then what is below it, then its end. -/
theorem close_tree (ns : List Nd) (kd fr t0 : Nat) (F : Fo) (T : Nat) : clN (gro (ns ++ [⟨ns.length, kd, fr, t0, []⟩]) ns.length F) ns.length T = ns ++ (Fo.cons kd fr T F .nil).flat nid ns.length := by
  have e : ∀ (f : Nd → Nd) (x : Nd), (ns ++ [x]).modify ns.length f = ns ++ [f x] := by
    intro f x
    apply List.ext_getElem?
    intro j
    rw [List.getElem?_modify]
    by_cases hj : j < ns.length
    · rw [List.getElem?_append_left hj, List.getElem?_append_left hj]
      cases ns[j]? with
      | none => rfl
      | some m => simp; intro e; omega
    · by_cases hj2 : j = ns.length
      · subst hj2; simp
      · rw [List.getElem?_eq_none (by simp; omega), List.getElem?_eq_none (by simp; omega)]; rfl
  unfold clN gro
  rw [mod_app_left _ _ _ _ (by rw [List.length_modify]; simp), mod_mod, e]
  simp [Fo.flat, nid, List.append_assoc]
/-- A node made and added below another one, then what is below it, then its end. -/
theorem pair_tree (ns : List Nd) (id : Nat) (h : id < ns.length) (kd fr t0 : Nat) (F : Fo) (T : Nat) : clN (gro (kidN (ns ++ [⟨ns.length, kd, fr, t0, []⟩]) id ns.length) ns.length F) ns.length T = gro ns id (.cons kd fr T F .nil) := by
  have e1 : kidN (ns ++ [⟨ns.length, kd, fr, t0, []⟩]) id ns.length = kidN ns id ns.length ++ [⟨ns.length, kd, fr, t0, []⟩] := by
    unfold kidN; rw [mod_app_left _ _ _ _ h]
  have e2 : (kidN ns id ns.length).length = ns.length := by unfold kidN; rw [List.length_modify]
  have := close_tree (kidN ns id ns.length) kd fr t0 F T
  rw [e2] at this
  rw [e1, this]
  unfold gro kidN
  simp [Fo.ids, nid]
/-- The last child's node ends where the forest does. -/
theorem last_kid : ∀ (F : Fo) (b : Nat), F ≠ .nil → ∃ (ks : List Int) (c : Nat) (mc : Nd), F.ids nid b = ks ++ [(c : Int)] ∧ b ≤ c ∧ (F.flat nid b)[c - b]? = some mc ∧ Nd.to mc = (F.last 0 : Nat)
  | .nil, _, h => absurd rfl h
  | .cons kd fr tt k r, b, _ => by
    cases hr : r with
    | nil => exact ⟨[], b, ⟨nid b, kd, fr, tt, k.ids nid (b + 1)⟩, by simp [Fo.ids, nid], Nat.le_refl _, by simp [Fo.flat], by simp [Fo.last]⟩
    | cons kd' fr' tt' k' r' =>
      obtain ⟨ks, c, mc, h1, h2, h3, h4⟩ := last_kid r (b + 1 + k.size) (by rw [hr]; simp)
      rw [hr] at h1 h3 h4
      refine ⟨nid b :: ks, c, mc, ?_, by omega, ?_, ?_⟩
      · simp only [Fo.ids] at h1 ⊢
        rw [h1]; rfl
      · have e : c - b = (k.flat nid (b + 1)).length + (c - (b + 1 + k.size)) + 1 := by rw [Fo.flat_len]; omega
        rw [e, flat_cons, List.getElem?_cons_succ, List.getElem?_append_right (by omega), Nat.add_sub_cancel_left]
        exact h3
      · rw [h4]; rfl

theorem get_app {ns : List Nd} {id : Nat} {m : Nd} (h : ns[id]? = some m) (b : List Nd) : (ns ++ b)[id]? = some m := by
  rw [List.getElem?_append_left (List.getElem?_eq_some_iff.1 h).1, h]

/-- There is room, and the tokens stand in their row. -/
def Rm (B : Nat) (ts left : List Tk) (en : Nat) (ns : List Nd) : Prop := ts.length ≤ 300 ∧ ns.length + 6 * left.length ≤ B ∧ ∃ lo, Srt en lo left

theorem drop_cons {ts r : List Tk} {i : Nat} {t : Tk} (h : ts.drop i = t :: r) : ts[i]? = some t ∧ ts.drop (i + 1) = r ∧ i < ts.length := by
  have hi : i < ts.length := by
    apply Nat.lt_of_not_le
    intro hle
    rw [List.drop_eq_nil_of_le hle] at h
    cases h
  rw [List.drop_eq_getElem_cons hi] at h
  injection h with h1 h2
  exact ⟨by rw [List.getElem?_eq_getElem hi, h1], h2, hi⟩

theorem val_is (n e d : Nat) (t : Tk) (r : List Tk) : valF (n + 1) e d (t :: r) =
      (if t.k == 6 then (.cons 4 t.fr (Tk.to t) .nil .nil, r)
      else if t.k == 7 then (.cons 5 t.fr (Tk.to t) .nil .nil, r)
      else if t.k == 8 then (.cons 6 t.fr (Tk.to t) .nil .nil, r)
      else if t.k == 0 then (.cons 1 t.fr (max (lstF n e 1 d 0 r).2.1 ((lstF n e 1 d 0 r).1.last 0)) (lstF n e 1 d 0 r).1 .nil, (lstF n e 1 d 0 r).2.2)
      else (.cons 2 t.fr (max (lstF n e 3 d 0 r).2.1 ((lstF n e 3 d 0 r).1.last 0)) (lstF n e 3 d 0 r).1 .nil, (lstF n e 3 d 0 r).2.2)) := by
  rw [valF.eq_def]
theorem leaf_flat (kd fr tt b : Nat) : (Fo.cons kd fr tt .nil .nil).flat nid b = [⟨b, kd, fr, tt, []⟩] := rfl
theorem Rm.next {ts r : List Tk} {en : Nat} {ns : List Nd} {t : Tk} (h : Rm 3000 ts (t :: r) en ns) (x : Nd) : Rm 2995 ts r en (ns ++ [x]) := by
  obtain ⟨h1, h2, lo, h3⟩ := h
  exact ⟨h1, by rw [List.length_append, List.length_singleton]; rw [List.length_cons] at h2; omega, _, h3.2.2⟩

-- value
theorem kidN_len (ns : List Nd) (id : Nat) (c : Int) : (kidN ns id c).length = ns.length := by unfold kidN; rw [List.length_modify]
/-- A node made last, and added below another one: it stands there without children. -/
theorem kidN_last {ns : List Nd} {id : Nat} (h : id < ns.length) (x : Nd) (c : Int) : (kidN (ns ++ [x]) id c)[ns.length]? = some x := by
  unfold kidN
  rw [mod_app_left _ _ _ _ h, List.getElem?_append_right (by rw [List.length_modify]; exact Nat.le_refl _), List.length_modify, Nat.sub_self]
  rfl
theorem val_one (n e d : Nat) (t : Tk) (r : List Tk) : ∃ kd fr tt k, (valF n e d (t :: r)).1 = .cons kd fr tt k .nil := by
  cases n with
  | zero => exact ⟨_, _, _, _, by rw [valF.eq_def]⟩
  | succ n =>
    rw [val_is]
    split
    · exact ⟨_, _, _, _, rfl⟩
    split
    · exact ⟨_, _, _, _, rfl⟩
    split
    · exact ⟨_, _, _, _, rfl⟩
    split
    · exact ⟨_, _, _, _, rfl⟩
    · exact ⟨_, _, _, _, rfl⟩
theorem Rm.mono {B B' : Nat} {ts left : List Tk} {en : Nat} {ns ns' : List Nd} (h : Rm B ts left en ns) (h' : ns'.length + B ≤ ns.length + B') : Rm B' ts left en ns' := ⟨h.1, by have := h.2.1; omega, h.2.2⟩

theorem elm_is (n e c d : Nat) (t : Tk) (r : List Tk) : elmF (n + 1) e c d (t :: r) =
    (if c == 3 then valF n e (d + 1) (t :: r) else if t.k == 6 then prF n e d (t :: r) else (.cons 7 t.fr (max (Tk.to t) ((valF n e (d + 1) (t :: r)).1.last 0)) (valF n e (d + 1) (t :: r)).1 .nil, (valF n e (d + 1) (t :: r)).2)) := by
  rw [elmF.eq_def]
theorem pr_one (n e d : Nat) (t : Tk) (r : List Tk) : ∃ T ks, (prF (n + 1) e d (t :: r)).1 = .cons 3 t.fr T ks .nil := by
  rw [pr_eq]
  exact ⟨_, _, rfl⟩
theorem dplus (d : Nat) : ((d : Int) + 1) = ((d + 1 : Nat) : Int) := by omega

end Go.Proofs.YtjmfjlffcopnnaaDoor

namespace Go.Proofs.YtjmfjlffcopnnaaDoor
open Go.RowKit

theorem pos_eq {ts r : List Tk} {t : Tk} {i j : Nat} (h : ts.drop i = t :: r) (h' : ts.drop j = r) (hj : j ≤ ts.length) : j = i + 1 := by
  have e1 := congrArg List.length h
  have e2 := congrArg List.length h'
  rw [List.length_drop] at e1 e2
  rw [List.length_cons] at e1
  omega
theorem gro_kids {ns : List Nd} {x : Nat} {m : Nd} (hm : ns[x]? = some m) (hk : m.kids = []) (F : Fo) : ∃ m', (gro ns x F)[x]? = some m' ∧ m'.kids.length ≤ F.size := by
  refine ⟨_, gro_get hm F, ?_⟩
  rw [hk, List.nil_append]
  exact ids_le F _
theorem app_one (kd fr tt : Nat) (k F : Fo) : (Fo.cons kd fr tt k .nil).app F = .cons kd fr tt k F := rfl

end Go.Proofs.YtjmfjlffcopnnaaDoor

namespace Go.Proofs.YtjmfjlffcopnnaaDoor
open Go.RowKit

theorem lst_nil (k e c d st : Nat) : lstF k e c d st [] = (lackF e .nil, e, []) := by cases k <;> rw [lstF.eq_def]
theorem lst_is (k e c d st : Nat) (t : Tk) (r : List Tk) : lstF (k + 1) e c d st (t :: r) =
    (if t.k == c then (if st == 2 then lackF t.fr .nil else .nil, Tk.to t, r)
      else if t.k == 5 && st == 1 then lstF k e c d 2 r
      else if starts t (d + 1) then
        (if st == 1 then lackF t.fr ((elmF k e c d (t :: r)).1.app (lstF k e c d 1 (elmF k e c d (t :: r)).2).1) else (elmF k e c d (t :: r)).1.app (lstF k e c d 1 (elmF k e c d (t :: r)).2).1, (lstF k e c d 1 (elmF k e c d (t :: r)).2).2)
      else (.cons 7 t.fr (Tk.to t) .nil (lstF k e c d st r).1, (lstF k e c d st r).2)) := by
  rw [lstF.eq_def]
variable {w wr W : World} {base pb : Nat} {ts : List Tk} {en c d : Nat} {ns : List Nd} {id n : Nat} {left0 : List Tk} {tot : Fo × Nat × List Tk} {k st i : Nat} {F : Fo} {t : Tk} {r : List Tk}
/-- What an element adds. -/
def elF (st : Nat) (t : Tk) (X : Fo) : Fo := if st == 1 then lackF t.fr X else X
theorem meas {X Y : World} {pb i j N : Nat} (h' : X.cell? ⟨pb, 1, none⟩ = some (.int .i64 (j : Nat))) (h : Y.cell? ⟨pb, 1, none⟩ = some (.int .i64 (i : Nat))) (hij : i < j) (hi : i < N) : N - (intOf ((X.cell? ⟨pb, 1, none⟩).getD undef)).toNat < N - (intOf ((Y.cell? ⟨pb, 1, none⟩).getD undef)).toNat := by
  rw [h, h']; simp [intOf]; omega
end Go.Proofs.YtjmfjlffcopnnaaDoor

namespace Go.Proofs.YtjmfjlffcopnnaaDoor
open Go.RowKit

def NoTree : Value := .agg #[.int .i64 0, .int .i64 0, .slice none 0 0]

theorem filter_step {l : List Tk} {j : Nat} {t : Tk} (h : l[j]? = some t) : (l.take (j + 1)).filter fineT = if fineT t then (l.take j).filter fineT ++ [t] else (l.take j).filter fineT := by
  rw [List.take_add_one, h, List.filter_append]
  cases hf : fineT t <;> simp [hf]

-- tops
theorem top_nil (k e : Nat) (one : Bool) : topF k e one [] = if one then .nil else lackF e .nil := by cases k <;> rfl
theorem top_is (k e : Nat) (one : Bool) (t : Tk) (r : List Tk) : topF (k + 1) e one (t :: r) =
    (if !starts t 1 then .cons 7 t.fr (Tk.to t) .nil (topF k e one r)
    else if one then .cons 7 t.fr (max (Tk.to t) ((valF (4 * (r.length + 1)) e 1 (t :: r)).1.last 0)) (valF (4 * (r.length + 1)) e 1 (t :: r)).1 (topF k e one (valF (4 * (r.length + 1)) e 1 (t :: r)).2)
    else (valF (4 * (r.length + 1)) e 1 (t :: r)).1.app (topF k e true (valF (4 * (r.length + 1)) e 1 (t :: r)).2)) := rfl
section
variable {w wr W : World} {base pb : Nat} {ts : List Tk} {en : Nat} {ns : List Nd} {tot : Fo} {k i : Nat} {one : Bool} {F : Fo} {t : Tk} {r : List Tk}
/-- What a value at the root adds. -/
def tpF (one : Bool) (t : Tk) (X : Fo) : Fo := if one then .cons 7 t.fr (max (Tk.to t) (X.last 0)) X .nil else X
end
theorem OwnT.mono {w : World} {base base' : Nat} {nv : Value} {vs : List Nv} {ns : List Nd} (h : OwnT w base nv vs ns) (hb : base' ≤ base) : OwnT w base' nv vs ns :=
  ⟨h.row.mono hb, h.len, fun i v n hv hn => by
    obtain ⟨a, b, c, d, e⟩ := h.fit i v n hv hn
    exact ⟨a, b, c, d, e.mono hb⟩, h.apart⟩
/-- What Parse answers. -/
def ParPost (l : List UInt8) (w : World) (e : Ending) (w' : World) : Prop := ∃ p cap vs, e = .returned (.tuple #[.agg #[.int .i64 0, .int .i64 (parN l).length, .slice p (parN l).length cap], .int .i64 0]) ∧ OwnT w' w.heap.size (.slice p (parN l).length cap) vs (parN l) ∧ Below w.heap.size w w'
theorem par_gro (l : List UInt8) (N : Nat) (hN : N = l.length) : gro [⟨(0 : Nat), (0 : Nat), (0 : Nat), N, []⟩] 0 (parK l) = parN l := by
  subst hN
  show [_] ++ (parK l).flat nid 1 = _ :: ((parK l).flat nid 1 ++ [])
  rw [List.append_nil]
  rfl

end Go.Proofs.YtjmfjlffcopnnaaDoor
