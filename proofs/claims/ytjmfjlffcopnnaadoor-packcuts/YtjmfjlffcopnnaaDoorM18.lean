/-
  CoB, Sp1, Spt, Sp2, in one text. Conditions: as each theorem's premises say.
-/
import Derived.Test.YtjmfjlffcopnnaaDoorLaA
namespace Go.Proofs.YtjmfjlffcopnnaaDoor
open Go.RowKit

/-- A node with its children's row put to the nodes. -/
theorem OwnT.pushK {W w' : World} {base : Nat} {nv nv' : Value} {vs : List Nv} {ns : List Nd} (h : OwnT W base nv vs ns) (hg : W.grownBy w' nv.ownBlock) (v : Nv) (n : Nd) (hv : Fits W base v n) (hap : ∀ (i : Nat) x g, vs[i]? = some x → x.kv.ownBlock = some g → v.kv.ownBlock ≠ some g) (ho : lyN.Own w' base nv' (vs ++ [v])) : OwnT w' base nv' (vs ++ [v]) (ns ++ [n]) := by
  have keep : ∀ (x : Nv) (m : Nd), Fits W base x m → Fits w' base x m := fun x m hf => by
    obtain ⟨a, b, c, d, e⟩ := hf
    exact ⟨a, b, c, d, e.kept hg (fun k hk e0 => by
      obtain ⟨c1, h1⟩ := h.row.obj e0
      obtain ⟨c2, h2⟩ := e.obj hk
      exact type_ne h1 h2 (by decide) rfl)⟩
  have part : ∀ (i : Nat) x, (vs ++ [v])[i]? = some x → vs[i]? = some x ∨ (i = vs.length ∧ x = v) := fun i x hx => by
    by_cases hi : i < vs.length
    · rw [List.getElem?_append_left hi] at hx; exact .inl hx
    · have hi2 : i = vs.length := by have := (List.getElem?_eq_some_iff.1 hx).1; simp at this; omega
      subst hi2
      rw [List.getElem?_append_right (Nat.le_refl _), Nat.sub_self] at hx
      exact .inr ⟨rfl, by simpa using hx.symm⟩
  have hl := h.len
  refine ⟨ho, by rw [List.length_append, List.length_append, hl]; rfl, fun i x m hx hm => ?_, fun i j x y g hx hy hij hk => ?_⟩
  · rcases part i x hx with hx | ⟨rfl, rfl⟩
    · have := (List.getElem?_eq_some_iff.1 hx).1
      rw [List.getElem?_append_left (by omega)] at hm
      exact keep x m (h.fit i x m hx hm)
    · rw [List.getElem?_append_right (by omega), hl, Nat.sub_self] at hm
      simp at hm
      subst hm
      exact keep _ _ hv
  · rcases part i x hx with hx2 | ⟨ei, ex⟩
    · rcases part j y hy with hy2 | ⟨ej, ey⟩
      · exact h.apart i j x y g hx2 hy2 hij hk
      · rw [ey]; exact hap i x g hx2 hk
    · rcases part j y hy with hy2 | ⟨ej, ey⟩
      · rw [ex] at hk
        exact fun e => hap j y g hy2 e hk
      · exact absurd (ei.trans ej.symm) hij
theorem ownT_none (w : World) (base : Nat) : OwnT w base (.slice none 0 0) [] [] := ⟨Ly.Own.nil _ _, rfl, fun i x m hx => by simp at hx, fun i j x y g hx => by simp at hx⟩
/-- What CopyTree holds: the tree's box, the answer's, the copy's, its nodes so far. -/
structure CS (w wr : World) (root next : Int) (p : Option Addr) (n cap : Nat) (ns : List Nd) (nv : Value) (vs : List Nv) : Prop where
  boxA : wr.heap[w.heap.size]? = some (.cells #[.int .i64 root, .int .i64 next, .slice p n cap] 26 (0, 0))
  boxR : wr.heap[w.heap.size + 1]? = some (.cells #[.int .i64 0, .int .i64 0, .slice none 0 0] 26 (0, 0))
  boxB : wr.heap[w.heap.size + 2]? = some (.cells #[.int .i64 root, .int .i64 next, nv] 26 (0, 0))
  own : OwnT wr w.heap.size nv vs ns
  below : Below w.heap.size w wr
theorem CS.later {w wr W : World} {root next : Int} {p : Option Addr} {n cap : Nat} {ns : List Nd} {nv : Value} {vs : List Nv} (h : CS w wr root next p n cap ns nv vs) (hb : Below wr.heap.size wr W) : CS w W root next p n cap ns nv vs :=
  ⟨(hb.block _ (Array.getElem?_eq_some_iff.1 h.boxA).1).trans h.boxA, (hb.block _ (Array.getElem?_eq_some_iff.1 h.boxR).1).trans h.boxR, (hb.block _ (Array.getElem?_eq_some_iff.1 h.boxB).1).trans h.boxB, h.own.below hb, h.below.trans (hb.mono h.below.size)⟩
/-- A box of another type stays, where the row of nodes is written. -/
theorem box_staysN {w w' : World} {base k : Nat} {v : Value} {vs : List Nv} {c : Array Value} {ty : TypeId} (ho : lyN.Own w base v vs) (hg : w.grownBy w' v.ownBlock) (h : w.heap[k]? = some (.cells c ty (0, 0))) (hty : ty ≠ 86) : w'.heap[k]? = some (.cells c ty (0, 0)) :=
  (hg.block k (Array.getElem?_eq_some_iff.1 h).1 (fun e => by
    obtain ⟨cur, hcur⟩ := ho.obj e.symm
    exact type_ne h hcur hty rfl)).trans h
theorem CS.push {w W w' : World} {root next : Int} {p : Option Addr} {n cap : Nat} {ns : List Nd} {nv nv' : Value} {vs : List Nv} (h : CS w W root next p n cap ns nv vs) (hg : W.grownBy w' nv.ownBlock) (v : Nv) (m : Nd) (hv : Fits W w.heap.size v m) (hap : ∀ (i : Nat) x g, vs[i]? = some x → x.kv.ownBlock = some g → v.kv.ownBlock ≠ some g) (ho : lyN.Own w' w.heap.size nv' (vs ++ [v])) : CS w (w'.setCell ⟨w.heap.size + 2, 2, none⟩ nv') root next p n cap (ns ++ [m]) nv' (vs ++ [v]) := by
  have a1 := box_staysN h.own.row hg h.boxA (by decide)
  have a2 := box_staysN h.own.row hg h.boxR (by decide)
  have a3 := box_staysN h.own.row hg h.boxB (by decide)
  have g2 := set_grown w' (w.heap.size + 2) 2 nv'
  have hb := h.below.trans (below_grownN hg (fun g hgg => (h.own.row.lt hgg).1) h.below.size)
  refine ⟨(g2.block _ (Array.getElem?_eq_some_iff.1 a1).1 (fun e => by have := Option.some.inj e; omega)).trans a1, (g2.block _ (Array.getElem?_eq_some_iff.1 a2).1 (fun e => by have := Option.some.inj e; omega)).trans a2, ?_, ?_, hb.trans (below_grown g2 (by omega) hb.size)⟩
  · rw [heap_setCell_at a3]; rfl
  · exact (h.own.pushK hg v m hv hap ho).kept g2 a3 (by decide) (by decide)
def CopyT (root next : Int) (ns : List Nd) (w : World) (e : Ending) (w' : World) : Prop := ∃ p cap vs, e = .returned (trV root next p ns.length cap) ∧ OwnT w' w.heap.size (.slice p ns.length cap) vs ns ∧ Below w.heap.size w w'

theorem OwnS.pushK {W w' : World} {base : Nat} {nv nv' : Value} {vs : List Sv} {ss : List St} (h : OwnS W base nv vs ss) (hg : W.grownBy w' nv.ownBlock) (v : Sv) (s : St) (hv : FitS W base v s) (ho : lyS.Own w' base nv' (vs ++ [v])) : OwnS w' base nv' (vs ++ [v]) (ss ++ [s]) := by
  have keep : ∀ (x : Sv) (m : St), FitS W base x m → FitS w' base x m := fun x m hf => hf.kept hg (fun g e => h.row.obj e)
  have hl := h.len
  refine ⟨ho, by rw [List.length_append, List.length_append, hl]; rfl, fun i x m hx hm => ?_⟩
  by_cases hi : i < vs.length
  · rw [List.getElem?_append_left hi] at hx
    rw [List.getElem?_append_left (by omega)] at hm
    exact keep x m (h.fit i x m hx hm)
  · have hi2 : i = vs.length := by have := (List.getElem?_eq_some_iff.1 hx).1; simp at this; omega
    subst hi2
    rw [List.getElem?_append_right (Nat.le_refl _), Nat.sub_self] at hx
    rw [List.getElem?_append_right (by omega), hl, Nat.sub_self] at hm
    simp at hx hm
    subst hx; subst hm
    exact keep _ _ hv
def CopyS (ss : List St) (w : World) (e : Ending) (w' : World) : Prop := ∃ p cap vs, e = .returned (.slice p ss.length cap) ∧ OwnS w' w.heap.size (.slice p ss.length cap) vs ss ∧ Below w.heap.size w w'

end Go.Proofs.YtjmfjlffcopnnaaDoor

namespace Go.Proofs.YtjmfjlffcopnnaaDoor
open Go.RowKit

def SpI (base : Nat) (v : Value) (n : Nat) (w : World) (e : Ending) (w' : World) : Prop := e = .returned (.tuple #[]) ∧ ∃ ys, lyI.Own w' base v ys ∧ ys.length = n ∧ w.grownBy w' v.ownBlock

/-- A row of steps that may be written over: its steps' children lie apart. -/
structure SpS (w : World) (base : Nat) (v : Value) (n : Nat) (vs : List Sv) : Prop where
  row : lyS.Own w base v vs
  len : vs.length = n
  kids : ∀ (i : Nat) x, vs[i]? = some x → ∃ l, lyI.Own w base x.kv l
  apart : ∀ (i j : Nat) x y g, vs[i]? = some x → vs[j]? = some y → i ≠ j → x.kv.ownBlock = some g → y.kv.ownBlock ≠ some g
theorem set_id {vs : List Sv} {i : Nat} {x : Sv} (h : vs[i]? = some x) (u : Int) : (lyS.all vs).take (i * 6 + 1) ++ [.int .i64 u] ++ (lyS.all vs).drop (i * 6 + 1 + 1) = lyS.all (vs.set i ⟨x.kd, u, x.nd, x.fr, x.tt, x.kp, x.kn, x.kc⟩) := by
  obtain ⟨h1, h2⟩ := all_split (L := lyS) h
  obtain ⟨_, hlt⟩ := split_at h
  have h3 : (lyS.all (vs.take i)).length = i * 6 := h2
  have e : lyS.all (⟨x.kd, u, x.nd, x.fr, x.tt, x.kp, x.kn, x.kc⟩ :: vs.drop (i + 1)) = Sv.cells ⟨x.kd, u, x.nd, x.fr, x.tt, x.kp, x.kn, x.kc⟩ ++ lyS.all (vs.drop (i + 1)) := by simp [Ly.all, lyS]
  rw [h1, List.set_eq_take_append_cons_drop, if_pos hlt, all_app, e]
  clear h1 h2 e
  generalize lyS.all (vs.take i) = A at h3 ⊢
  generalize lyS.all (vs.drop (i + 1)) = B
  rw [List.take_append, List.drop_append, List.take_of_length_le (by omega), List.drop_eq_nil_of_le (by omega), h3, show i * 6 + 1 - i * 6 = 1 by omega, show i * 6 + 1 + 1 - i * 6 = 2 by omega]
  simp [lyS, Sv.cells, Sv.kv]
theorem SpS.spoil {w W : World} {base g n cap i : Nat} {vs : List Sv} {x : Sv} (h : SpS w base (.slice (some ⟨g, 0, none⟩) n cap) n vs) (hx : vs[i]? = some x) {ys : List Int} (hk : lyI.Own W base x.kv ys) (hg : w.grownBy W x.kv.ownBlock) (u : Int) :
    SpS (W.setCell ⟨g, i * 6 + 1, none⟩ (.int .i64 u)) base (.slice (some ⟨g, 0, none⟩) n cap) n (vs.set i ⟨x.kd, u, x.nd, x.fr, x.tt, x.kp, x.kn, x.kc⟩) := by
  have hil := (List.getElem?_eq_some_iff.1 hx).1
  obtain ⟨l0, hl0⟩ := h.kids i x hx
  have hrow : lyS.Own W base (.slice (some ⟨g, 0, none⟩) n cap) vs := h.row.kept hg (fun k hkk e => by
    obtain ⟨c1, h1⟩ := h.row.obj hkk
    obtain ⟨c2, h2⟩ := hl0.obj e
    exact type_ne h1 h2 (by decide) rfl)
  obtain ⟨cur, hcur⟩ := hrow.obj (g := g) rfl
  have hle : i * 6 + 1 + 1 ≤ (lyS.all vs).length := by rw [all_len]; show i * 6 + 1 + 1 ≤ vs.length * 6; omega
  have hown := own_setAll [.int .i64 u] (lyS.all vs) (i * 6 + 1) W (by unfold Ly.Own at hrow; rw [h.len] at hrow; exact hrow) hle
  have part : ∀ (j : Nat) y, (vs.set i ⟨x.kd, u, x.nd, x.fr, x.tt, x.kp, x.kn, x.kc⟩)[j]? = some y → ∃ z, vs[j]? = some z ∧ y.kv = z.kv ∧ (i = j → z = x) := fun j y hy => by
    rw [List.getElem?_set] at hy
    by_cases e : i = j
    · rw [if_pos e] at hy
      subst e
      rw [if_pos hil] at hy
      cases hy
      exact ⟨x, hx, rfl, fun _ => rfl⟩
    · rw [if_neg e] at hy
      exact ⟨y, hy, rfl, fun e2 => absurd e2 e⟩
  refine ⟨?_, by rw [List.length_set]; exact h.len, fun j y hy => ?_, fun j k y z q hy hz hjk hq => ?_⟩
  · unfold Ly.Own
    rw [List.length_set, h.len, ← set_id hx u]
    exact hown
  · obtain ⟨z, hz, he, hi⟩ := part j y hy
    rw [he]
    have keep : ∀ l, lyI.Own W base z.kv l → lyI.Own (W.setCell ⟨g, i * 6 + 1, none⟩ (.int .i64 u)) base z.kv l := fun l ho => ho.kept (set_grown ..) (fun k hkk e => by
      cases e
      obtain ⟨c2, h2⟩ := ho.obj hkk
      exact type_ne hcur h2 (by decide) rfl)
    by_cases e : i = j
    · rw [hi e] at keep ⊢
      exact ⟨ys, keep ys hk⟩
    · obtain ⟨l, hl⟩ := h.kids j z hz
      exact ⟨l, keep l (hl.kept hg (fun k hkk e2 => h.apart i j x z k hx hz e e2 hkk))⟩
  · obtain ⟨y2, hy2, he, _⟩ := part j y hy
    obtain ⟨z2, hz2, hf, _⟩ := part k z hz
    rw [he] at hq
    rw [hf]
    exact h.apart j k y2 z2 q hy2 hz2 hjk hq

end Go.Proofs.YtjmfjlffcopnnaaDoor

namespace Go.Proofs.YtjmfjlffcopnnaaDoor
open Go.RowKit

/-- A row of nodes that may be written over: their children lie apart. -/
structure SpT (w : World) (base : Nat) (v : Value) (n : Nat) (vs : List Nv) : Prop where
  row : lyN.Own w base v vs
  len : vs.length = n
  kids : ∀ (i : Nat) x, vs[i]? = some x → ∃ l, lyI.Own w base x.kv l
  apart : ∀ (i j : Nat) x y g, vs[i]? = some x → vs[j]? = some y → i ≠ j → x.kv.ownBlock = some g → y.kv.ownBlock ≠ some g
theorem OwnT.spt {w : World} {base n cap : Nat} {p : Option Addr} {vs : List Nv} {ns : List Nd} (h : OwnT w base (.slice p n cap) vs ns) : SpT w base (.slice p n cap) n vs := by
  have hl : vs.length = n := by
    obtain ⟨p', c', e⟩ := h.row.form
    cases e; rfl
  exact ⟨h.row, hl, fun i x hx => ⟨_, (h.fit i x _ hx (List.getElem?_eq_getElem (by rw [← h.len]; exact (List.getElem?_eq_some_iff.1 hx).1))).2.2.2.2⟩, h.apart⟩
theorem OwnT.kn {w : World} {base : Nat} {v : Value} {vs : List Nv} {ns : List Nd} (h : OwnT w base v vs ns) {b : Nat} (hk : ∀ s ∈ ns, s.kids.length ≤ b) : ∀ x ∈ vs, x.kn ≤ b := by
  intro x hx
  obtain ⟨i, hi⟩ := List.mem_iff_getElem?.1 hx
  have hl : i < ns.length := by rw [← h.len]; exact (List.getElem?_eq_some_iff.1 hi).1
  obtain ⟨_, _, _, _, f⟩ := h.fit i x _ hi (List.getElem?_eq_getElem hl)
  obtain ⟨kp, kc, hkv⟩ := f.form
  unfold Nv.kv at hkv
  simp only [Value.slice.injEq] at hkv
  rw [hkv.2.1]
  exact hk _ (List.getElem_mem hl)
theorem set_from {vs : List Nv} {i : Nat} {x : Nv} (h : vs[i]? = some x) (u : Int) : (lyN.all vs).take (i * 5 + 2) ++ [.int .i64 u] ++ (lyN.all vs).drop (i * 5 + 2 + 1) = lyN.all (vs.set i ⟨x.id, x.kd, u, x.tt, x.kp, x.kn, x.kc⟩) := by
  obtain ⟨h1, h2⟩ := all_split (L := lyN) h
  obtain ⟨_, hlt⟩ := split_at h
  have h3 : (lyN.all (vs.take i)).length = i * 5 := h2
  have e : lyN.all (⟨x.id, x.kd, u, x.tt, x.kp, x.kn, x.kc⟩ :: vs.drop (i + 1)) = Nv.cells ⟨x.id, x.kd, u, x.tt, x.kp, x.kn, x.kc⟩ ++ lyN.all (vs.drop (i + 1)) := by simp [Ly.all, lyN]
  rw [h1, List.set_eq_take_append_cons_drop, if_pos hlt, all_app, e]
  clear h1 h2 e
  generalize lyN.all (vs.take i) = A at h3 ⊢
  generalize lyN.all (vs.drop (i + 1)) = B
  rw [List.take_append, List.drop_append, List.take_of_length_le (by omega), List.drop_eq_nil_of_le (by omega), h3, show i * 5 + 2 - i * 5 = 2 by omega, show i * 5 + 2 + 1 - i * 5 = 3 by omega]
  simp [lyN, Nv.cells, Nv.kv]
theorem SpT.spoil {w W : World} {base g n cap i : Nat} {vs : List Nv} {x : Nv} (h : SpT w base (.slice (some ⟨g, 0, none⟩) n cap) n vs) (hx : vs[i]? = some x) {ys : List Int} (hk : lyI.Own W base x.kv ys) (hg : w.grownBy W x.kv.ownBlock) (u : Int) :
    SpT (W.setCell ⟨g, i * 5 + 2, none⟩ (.int .i64 u)) base (.slice (some ⟨g, 0, none⟩) n cap) n (vs.set i ⟨x.id, x.kd, u, x.tt, x.kp, x.kn, x.kc⟩) := by
  have hil := (List.getElem?_eq_some_iff.1 hx).1
  obtain ⟨l0, hl0⟩ := h.kids i x hx
  have hrow : lyN.Own W base (.slice (some ⟨g, 0, none⟩) n cap) vs := h.row.kept hg (fun k hkk e => by
    obtain ⟨c1, h1⟩ := h.row.obj hkk
    obtain ⟨c2, h2⟩ := hl0.obj e
    exact type_ne h1 h2 (by decide) rfl)
  obtain ⟨cur, hcur⟩ := hrow.obj (g := g) rfl
  have hle : i * 5 + 2 + 1 ≤ (lyN.all vs).length := by rw [all_len]; show i * 5 + 2 + 1 ≤ vs.length * 5; omega
  have hown := own_setAll [.int .i64 u] (lyN.all vs) (i * 5 + 2) W (by unfold Ly.Own at hrow; rw [h.len] at hrow; exact hrow) hle
  have part : ∀ (j : Nat) y, (vs.set i ⟨x.id, x.kd, u, x.tt, x.kp, x.kn, x.kc⟩)[j]? = some y → ∃ z, vs[j]? = some z ∧ y.kv = z.kv ∧ (i = j → z = x) := fun j y hy => by
    rw [List.getElem?_set] at hy
    by_cases e : i = j
    · rw [if_pos e] at hy
      subst e
      rw [if_pos hil] at hy
      cases hy
      exact ⟨x, hx, rfl, fun _ => rfl⟩
    · rw [if_neg e] at hy
      exact ⟨y, hy, rfl, fun e2 => absurd e2 e⟩
  refine ⟨?_, by rw [List.length_set]; exact h.len, fun j y hy => ?_, fun j k y z q hy hz hjk hq => ?_⟩
  · unfold Ly.Own
    rw [List.length_set, h.len, ← set_from hx u]
    exact hown
  · obtain ⟨z, hz, he, hi⟩ := part j y hy
    rw [he]
    have keep : ∀ l, lyI.Own W base z.kv l → lyI.Own (W.setCell ⟨g, i * 5 + 2, none⟩ (.int .i64 u)) base z.kv l := fun l ho => ho.kept (set_grown ..) (fun k hkk e => by
      cases e
      obtain ⟨c2, h2⟩ := ho.obj hkk
      exact type_ne hcur h2 (by decide) rfl)
    by_cases e : i = j
    · rw [hi e] at keep ⊢
      exact ⟨ys, keep ys hk⟩
    · obtain ⟨l, hl⟩ := h.kids j z hz
      exact ⟨l, keep l (hl.kept hg (fun k hkk e2 => h.apart i j x z k hx hz e e2 hkk))⟩
  · obtain ⟨y2, hy2, he, _⟩ := part j y hy
    obtain ⟨z2, hz2, hf, _⟩ := part k z hz
    rw [he] at hq
    rw [hf]
    exact h.apart j k y2 z2 q hy2 hz2 hjk hq
theorem SpT.drew {w : World} {base n : Nat} {v : Value} {vs : List Nv} (h : SpT w base v n vs) : SpT w.drew base v n vs := by
  have hb : Below w.heap.size w w.drew := below_drew (Below.refl _ _)
  exact ⟨h.row.below hb, h.len, fun i x hx => by
    obtain ⟨l, hl⟩ := h.kids i x hx
    exact ⟨l, hl.below hb⟩, h.apart⟩

def SpTB (base : Nat) (w : World) (e : Ending) (w' : World) : Prop := e = .returned (.tuple #[]) ∧ Below base w w'

end Go.Proofs.YtjmfjlffcopnnaaDoor

namespace Go.Proofs.YtjmfjlffcopnnaaDoor
open Go.RowKit

/-- Of what was there, nothing but these blocks is written. -/
structure Touch (B : Nat → Prop) (w w' : World) : Prop where
  os : w'.os = w.os
  tape : w'.tape = w.tape
  output : w'.output = w.output
  size : w.heap.size ≤ w'.heap.size
  block : ∀ k, k < w.heap.size → ¬ B k → w'.heap[k]? = w.heap[k]?
theorem Touch.refl (B : Nat → Prop) (w : World) : Touch B w w := ⟨rfl, rfl, rfl, Nat.le_refl _, fun _ _ _ => rfl⟩
theorem Touch.trans {B : Nat → Prop} {w w1 w2 : World} (h : Touch B w w1) (h1 : Touch B w1 w2) : Touch B w w2 :=
  ⟨h1.os.trans h.os, h1.tape.trans h.tape, h1.output.trans h.output, Nat.le_trans h.size h1.size, fun k hk hb => (h1.block k (Nat.lt_of_lt_of_le hk h.size) hb).trans (h.block k hk hb)⟩
theorem Touch.mono {B B' : Nat → Prop} {w w1 : World} (h : Touch B w w1) (hb : ∀ k, k < w.heap.size → B k → B' k) : Touch B' w w1 :=
  ⟨h.os, h.tape, h.output, h.size, fun k hk hn => h.block k hk (fun e => hn (hb k hk e))⟩
theorem Touch.of_grown {B : Nat → Prop} {w w1 : World} {row : Option Nat} (h : w.grownBy w1 row) (hb : ∀ g, row = some g → B g) : Touch B w w1 :=
  ⟨h.os, h.tape, h.output, h.size, fun k hk hn => h.block k hk (fun e => hn (hb k e.symm))⟩
theorem Touch.below {B : Nat → Prop} {w w1 : World} {base : Nat} (h : Touch B w w1) (hb : ∀ k, B k → base ≤ k) (hs : base ≤ w.heap.size) : Below base w w1 :=
  ⟨h.os, h.tape, h.output, h.size, fun k hk => h.block k (Nat.lt_of_lt_of_le hk hs) (fun e => by have := hb k e; omega)⟩
theorem Touch.of_below {B : Nat → Prop} {w w1 : World} (h : Below w.heap.size w w1) : Touch B w w1 := ⟨h.os, h.tape, h.output, h.size, fun k hk _ => h.block k hk⟩
theorem Touch.obj {B : Nat → Prop} {w w1 : World} {k : Nat} {o : Obj} (h : Touch B w w1) (ho : w.heap[k]? = some o) (hk : ¬ B k) : w1.heap[k]? = some o := (h.block k (Array.getElem?_eq_some_iff.1 ho).1 hk).trans ho
theorem Ly.Own.touch {α : Type} {L : Ly α} {B : Nat → Prop} {w w' : World} {base : Nat} {v : Value} {xs : List α} (h : L.Own w base v xs) (ht : Touch B w w') (hb : ∀ g, v.ownBlock = some g → ¬ B g) : L.Own w' base v xs := by
  refine ⟨h.1, ?_⟩
  rcases h.2 with h2 | ⟨g, cap, cur, hv, h1, h2, h3⟩
  · exact .inl h2
  · subst hv
    exact .inr ⟨g, cap, cur, rfl, h1, ht.obj h2 (hb g rfl), h3⟩

def SpTo (B : Nat → Prop) (w : World) (e : Ending) (w' : World) : Prop := e = .returned (.tuple #[]) ∧ Touch B w w'

end Go.Proofs.YtjmfjlffcopnnaaDoor
