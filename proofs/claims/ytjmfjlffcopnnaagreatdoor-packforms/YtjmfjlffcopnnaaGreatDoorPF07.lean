/-
  GrM, Ps5, Ps6, Ps7, Ps8, in one text. Conditions: as each theorem's premises say.
-/
import Derived.Test.YtjmfjlffcopnnaaGreatDoorPF06
namespace Go.Proofs.YtjmfjlffcopnnaaGreatDoor
open Go.RowKit

def nid (i : Nat) : Int := (i : Int)
/-- A forest is added below a node. -/
def gro (ns : List Nd) (id : Nat) (F : Fo) : List Nd := ns.modify id (fun m => ⟨m.id, m.kd, m.fr, Nd.to m, m.kids ++ F.ids nid ns.length⟩) ++ F.flat nid ns.length
theorem gro_def (ns : List Nd) (id : Nat) (F : Fo) : gro ns id F = ns.modify id (fun m => ⟨m.id, m.kd, m.fr, Nd.to m, m.kids ++ F.ids nid ns.length⟩) ++ F.flat nid ns.length := rfl
theorem flat_cons (kd fr tt : Nat) (k r : Fo) (b : Nat) : (Fo.cons kd fr tt k r).flat nid b = ⟨nid b, kd, fr, tt, k.ids nid (b + 1)⟩ :: (k.flat nid (b + 1) ++ r.flat nid (b + 1 + k.size)) := rfl
theorem mod_id (ns : List Nd) (id : Nat) (f : Nd → Nd) (hf : ∀ m, f m = m) : ns.modify id f = ns := by
  apply List.ext_getElem?
  intro j
  rw [List.getElem?_modify]
  cases ns[j]? with
  | none => rfl
  | some m => simp [hf]
theorem gro_nil (ns : List Nd) (id : Nat) : gro ns id .nil = ns := by
  unfold gro
  rw [mod_id _ _ _ (fun m => by simp [Fo.ids])]
  simp [Fo.flat]
theorem gro_len (ns : List Nd) (id : Nat) (F : Fo) : (gro ns id F).length = ns.length + F.size := by
  unfold gro; rw [List.length_append, List.length_modify, Fo.flat_len]
theorem mod_app_left (a b : List Nd) (id : Nat) (f : Nd → Nd) (h : id < a.length) : (a ++ b).modify id f = a.modify id f ++ b := by
  apply List.ext_getElem?
  intro j
  rw [List.getElem?_modify]
  by_cases hj : j < a.length
  · rw [List.getElem?_append_left hj, List.getElem?_append_left (by rw [List.length_modify]; exact hj), List.getElem?_modify]
  · rw [List.getElem?_append_right (by omega), List.getElem?_append_right (by rw [List.length_modify]; omega), List.length_modify]
    cases b[j - a.length]? with
    | none => rfl
    | some m => simp; intro e; omega
theorem mod_mod (a : List Nd) (id : Nat) (f g : Nd → Nd) : (a.modify id f).modify id g = a.modify id (fun m => g (f m)) := by
  apply List.ext_getElem?
  intro j
  rw [List.getElem?_modify, List.getElem?_modify, List.getElem?_modify]
  cases a[j]? with
  | none => rfl
  | some m => by_cases e : id = j <;> simp [e]
theorem gro_app (ns : List Nd) (id : Nat) (h : id < ns.length) (F T : Fo) : gro (gro ns id F) id T = gro ns id (F.app T) := by
  rw [gro_def (gro ns id F) id T, gro_len, gro_def ns id F, gro_def ns id (F.app T), mod_app_left _ _ _ _ (by rw [List.length_modify]; exact h), mod_mod, Fo.ids_app, Fo.flat_app]
  simp only [List.append_assoc]
theorem gro_get {ns : List Nd} {id : Nat} {m : Nd} (h : ns[id]? = some m) (F : Fo) : (gro ns id F)[id]? = some ⟨m.id, m.kd, m.fr, Nd.to m, m.kids ++ F.ids nid ns.length⟩ := by
  have hl := (List.getElem?_eq_some_iff.1 h).1
  unfold gro
  rw [List.getElem?_append_left (by rw [List.length_modify]; exact hl), List.getElem?_modify, h]
  simp
theorem ids_le (F : Fo) (b : Nat) : (F.ids nid b).length ≤ F.size := by
  induction F generalizing b with
  | nil => exact Nat.le_refl _
  | cons kd fr tt k r _ ih => simp only [Fo.ids, List.length_cons, Fo.size]; have := ih (b + 1 + k.size); omega
/-- A tree made behind all others, then added below a node. -/
theorem kid_tree (ns : List Nd) (id : Nat) (h : id < ns.length) (kd fr tt : Nat) (k : Fo) : kidN (ns ++ (Fo.cons kd fr tt k .nil).flat nid ns.length) id ns.length = gro ns id (.cons kd fr tt k .nil) := by
  unfold kidN
  rw [mod_app_left _ _ _ _ h]
  rfl
/-- A node made, then what is below it, then its end. -/
theorem close_tree (ns : List Nd) (kd fr t0 : Nat) (F : Fo) (T : Nat) : clN (gro (ns ++ [⟨ns.length, kd, fr, t0, []⟩]) ns.length F) ns.length T = ns ++ (Fo.cons kd fr T F .nil).flat nid ns.length := by
  have e : ∀ (f : Nd → Nd) (x : Nd), (ns ++ [x]).modify ns.length f = ns ++ [f x] := by
    intro f x
    apply List.ext_getElem?
    intro j
    rw [List.getElem?_modify]
    by_cases hj : j < ns.length
    · rw [List.getElem?_append_left hj, List.getElem?_append_left hj]
      cases ns[j]? with
      | none => rfl
      | some m => simp; intro e; omega
    · by_cases hj2 : j = ns.length
      · subst hj2; simp
      · rw [List.getElem?_eq_none (by simp; omega), List.getElem?_eq_none (by simp; omega)]; rfl
  unfold clN gro
  rw [mod_app_left _ _ _ _ (by rw [List.length_modify]; simp), mod_mod, e]
  simp [Fo.flat, nid, List.append_assoc]
/-- A node made and added below another one, then what is below it, then its end. -/
theorem pair_tree (ns : List Nd) (id : Nat) (h : id < ns.length) (kd fr t0 : Nat) (F : Fo) (T : Nat) : clN (gro (kidN (ns ++ [⟨ns.length, kd, fr, t0, []⟩]) id ns.length) ns.length F) ns.length T = gro ns id (.cons kd fr T F .nil) := by
  have e1 : kidN (ns ++ [⟨ns.length, kd, fr, t0, []⟩]) id ns.length = kidN ns id ns.length ++ [⟨ns.length, kd, fr, t0, []⟩] := by
    unfold kidN; rw [mod_app_left _ _ _ _ h]
  have e2 : (kidN ns id ns.length).length = ns.length := by unfold kidN; rw [List.length_modify]
  have := close_tree (kidN ns id ns.length) kd fr t0 F T
  rw [e2] at this
  rw [e1, this]
  unfold gro kidN
  simp [Fo.ids, nid]
/-- The last child's node ends where the forest does. -/
theorem last_kid : ∀ (F : Fo) (b : Nat), F ≠ .nil → ∃ (ks : List Int) (c : Nat) (mc : Nd), F.ids nid b = ks ++ [(c : Int)] ∧ b ≤ c ∧ (F.flat nid b)[c - b]? = some mc ∧ Nd.to mc = (F.last 0 : Nat)
  | .nil, _, h => absurd rfl h
  | .cons kd fr tt k r, b, _ => by
    cases hr : r with
    | nil => exact ⟨[], b, ⟨nid b, kd, fr, tt, k.ids nid (b + 1)⟩, by simp [Fo.ids, nid], Nat.le_refl _, by simp [Fo.flat], by simp [Fo.last]⟩
    | cons kd' fr' tt' k' r' =>
      obtain ⟨ks, c, mc, h1, h2, h3, h4⟩ := last_kid r (b + 1 + k.size) (by rw [hr]; simp)
      rw [hr] at h1 h3 h4
      refine ⟨nid b :: ks, c, mc, ?_, by omega, ?_, ?_⟩
      · simp only [Fo.ids] at h1 ⊢
        rw [h1]; rfl
      · have e : c - b = (k.flat nid (b + 1)).length + (c - (b + 1 + k.size)) + 1 := by rw [Fo.flat_len]; omega
        rw [e, flat_cons, List.getElem?_cons_succ, List.getElem?_append_right (by omega), Nat.add_sub_cancel_left]
        exact h3
      · rw [h4]; rfl

theorem get_app {ns : List Nd} {id : Nat} {m : Nd} (h : ns[id]? = some m) (b : List Nd) : (ns ++ b)[id]? = some m := by
  rw [List.getElem?_append_left (List.getElem?_eq_some_iff.1 h).1, h]

theorem close_any {w : World} {base pb i en : Nat} {ts : List Tk} {ns : List Nd} (id : Nat) (F : Fo) (h : PSx w base pb ts i en (gro ns id F)) (m : Nd) (hm : ns[id]? = some m) (hk : m.kids = []) (hF : F.size ≤ 4096) (t : Nat) :
    Calls Tryz.prog 104 #[.pointer (some ⟨pb, 0, none⟩), .int .i64 id, .int .i64 t] w (StepPost (.returned (.tuple #[])) base pb ts i en (clN (gro ns id F) id (max t (F.last 0) : Nat)) w) := by
  have hg := gro_get hm F
  rw [hk, List.nil_append] at hg
  cases hF' : F with
  | nil =>
    rw [hF'] at hg h
    have := close_none h id _ hg rfl t
    simpa [Fo.last] using this
  | cons kd fr tt k r =>
    rw [← hF']
    obtain ⟨ks, c, mc, h1, h2, h3, h4⟩ := last_kid F ns.length (by rw [hF']; simp)
    have hl := ids_le F ns.length
    have hc : (gro ns id F)[c]? = some mc := by
      rw [gro_def, List.getElem?_append_right (by rw [List.length_modify]; exact h2), List.length_modify, h3]
    have hlen : ks.length ≤ 4096 := by
      rw [h1, List.length_append, List.length_singleton] at hl
      omega
    have := close_some h id _ hg ks c (by rw [h1]) hlen mc hc t
    rw [h4] at this
    have e : max (t : Int) ((F.last 0 : Nat) : Int) = ((max t (F.last 0) : Nat) : Int) := by omega
    rwa [e] at this

set_option maxRecDepth 100000 in
set_option maxHeartbeats 1000000 in
theorem lack_any {w : World} {base pb i en : Nat} {ts : List Tk} {ns : List Nd} (h : PSx w base pb ts i en ns) (hl : ns.length ≤ 4000) (id : Nat) (m : Nd) (hm : ns[id]? = some m) (hk : m.kids.length ≤ 4000) (a : Nat) :
    Calls Tryz.prog 60 #[.pointer (some ⟨pb, 0, none⟩), .int .i64 id, .int .i64 a] w (StepPost (.returned (.tuple #[])) base pb ts i en (gro ns id (lackF a .nil)) w) := by
  have hid := (List.getElem?_eq_some_iff.1 hm).1
  have H := Lib.hid h; clear h
  have T := Lib.hid (kid_tree ns id hid 7 a a .nil)
  go_enter Tryz.func60, Tryz.ntmps60
  go_wp2_with fail
  refine (node_any H.out (by omega) 7 a a).mono ?_
  rintro e w1 ⟨rfl, hp1, hb1, hk1⟩
  have H1 := Lib.hid hp1; have B1 := Lib.hid hb1; have K1 := Lib.hid hk1; clear hp1 hb1 hk1
  go_wp2_with fail
  refine (kid_any H1.out id m (get_app hm _) (by omega) ns.length).mono ?_
  rintro e w2 ⟨rfl, hp2, hb2, hk2⟩
  have H2 := Lib.hid hp2; have B2 := Lib.hid hb2; have K2 := Lib.hid hk2; clear hp2 hb2 hk2
  go_wp2_with fail
  go_end0
  refine ⟨rfl, ?_, B1.out.trans B2.out, K1.out.trans K2.out⟩
  have := T.out
  unfold lackF
  rw [← this]
  exact H2.out

/-- A token's box. -/
def tkO (t : Tk) : Obj := .cells #[.int .i64 t.k, .int .i64 t.fr, .int .i64 (Tk.to t)] 99
theorem tk_cells {W : World} {b : Nat} {t : Tk} (h : W.heap[b]? = some (tkO t)) : W.cell? ⟨b, 0, none⟩ = some (.int .i64 t.k) ∧ W.cell? ⟨b, 1, none⟩ = some (.int .i64 t.fr) ∧ W.cell? ⟨b, 2, none⟩ = some (.int .i64 (Tk.to t)) :=
  ⟨(obj_cells h).1 0 _ rfl, (obj_cells h).1 1 _ rfl, (obj_cells h).1 2 _ rfl⟩
/-- The next token is taken: its box, the parser one further. -/
theorem take_tok {w w1 : World} {base pb i en : Nat} {ts : List Tk} {tv nv : Value} {vs : List Nv} {ns : List Nd} (H : PS w base pb ts i en tv nv vs ns) (hb : Below w.heap.size w w1) (t : Tk) :
    PSx ((w1.setCell ⟨pb, 1, none⟩ (.int .i64 ((i : Int) + 1))).alloc (tkO t)) base pb ts (i + 1) en ns ∧ Below base w ((w1.setCell ⟨pb, 1, none⟩ (.int .i64 ((i : Int) + 1))).alloc (tkO t)) ∧ Keeps w ((w1.setCell ⟨pb, 1, none⟩ (.int .i64 ((i : Int) + 1))).alloc (tkO t)) ∧ ((w1.setCell ⟨pb, 1, none⟩ (.int .i64 ((i : Int) + 1))).alloc (tkO t)).heap[w1.heap.size]? = some (tkO t) := by
  have H1 := H.below hb
  have hpb := H.cells.2.2.2.2.2.2.2
  have hbase : base ≤ w.heap.size := Nat.le_trans H.new (Nat.le_of_lt hpb)
  have e : ((i : Int) + 1) = ((i + 1 : Nat) : Int) := by omega
  have hs : (w1.setCell ⟨pb, 1, none⟩ (.int .i64 ((i : Int) + 1))).heap.size = w1.heap.size := by simp
  refine ⟨?_, ?_, ?_, ?_⟩
  · rw [e]
    exact ⟨tv, nv, vs, (H1.setI (i + 1)).below ((Below.refl _ _).alloc (Nat.le_refl _) _)⟩
  · exact (((hb.mono hbase).trans (H1.setI_below _ 1))).alloc (by rw [hs]; exact Nat.le_trans hbase hb.size) _
  · exact (keeps_below hb).trans ((keeps_setP H1.obj (by decide) _).trans (keeps_below ((Below.refl _ _).alloc (Nat.le_refl _) _)))
  · have := heap_alloc_new (w1.setCell ⟨pb, 1, none⟩ (.int .i64 ((i : Int) + 1))) (tkO t)
    rwa [hs] at this
/-- The next token is looked at: its box. -/
theorem see_tok {w w1 : World} {base pb i en : Nat} {ts : List Tk} {tv nv : Value} {vs : List Nv} {ns : List Nd} (H : PS w base pb ts i en tv nv vs ns) (hb : Below w.heap.size w w1) (t : Tk) :
    PSx (w1.alloc (tkO t)) base pb ts i en ns ∧ Below base w (w1.alloc (tkO t)) ∧ Keeps w (w1.alloc (tkO t)) ∧ (w1.alloc (tkO t)).heap[w1.heap.size]? = some (tkO t) := by
  have hpb := H.cells.2.2.2.2.2.2.2
  have hbase : base ≤ w.heap.size := Nat.le_trans H.new (Nat.le_of_lt hpb)
  have hb2 := hb.alloc hb.size (tkO t)
  exact ⟨⟨tv, nv, vs, H.below hb2⟩, hb2.mono hbase, keeps_below hb2, heap_alloc_new w1 _⟩

set_option maxRecDepth 100000 in
set_option maxHeartbeats 1000000 in
theorem stray_any {w : World} {base pb i en : Nat} {ts : List Tk} {ns : List Nd} (h : PSx w base pb ts i en ns) (hl : ns.length ≤ 4000) (id : Nat) (m : Nd) (hm : ns[id]? = some m) (hk : m.kids.length ≤ 4000) (t : Tk) (ht : ts[i]? = some t) (hi : i ≤ 300) :
    Calls Tryz.prog 56 #[.pointer (some ⟨pb, 0, none⟩), .int .i64 id] w (StepPost (.returned (.tuple #[])) base pb ts (i + 1) en (gro ns id (.cons 7 t.fr (Tk.to t) .nil .nil)) w) := by
  have hid := (List.getElem?_eq_some_iff.1 hm).1
  obtain ⟨tv, nv, vs, h⟩ := h
  have H := Lib.hid h; clear h
  have T := Lib.hid (kid_tree ns id hid 7 t.fr (Tk.to t) .nil)
  go_enter Tryz.func56, Tryz.ntmps56
  go_wp2_with fail
  refine (next_yes H.out ht).mono ?_
  rintro e w1 ⟨rfl, hb1⟩
  have TT := Lib.hid (take_tok H.out hb1 t)
  have H1 := Lib.hid (H.out.below hb1); clear hb1
  obtain ⟨c0, c1, c2, c3, c4, c5, cf, hpb⟩ := H1.out.cells
  go_wp2_with fail
  change Calls Tryz.prog 53 _ ((w1.setCell ⟨pb, 1, none⟩ (.int .i64 ((i : Int) + 1))).alloc (tkO t)) _
  generalize (w1.setCell ⟨pb, 1, none⟩ (.int .i64 ((i : Int) + 1))).alloc (tkO t) = X at TT ⊢
  clear c0 c1 c2 c3 c4 c5 cf
  refine (node_any TT.out.1 (by omega) 7 t.fr (Tk.to t)).mono ?_
  rintro e w2 ⟨rfl, hp1, hb1, hk1⟩
  have H2 := Lib.hid hp1; have B2 := Lib.hid hb1; have K2 := Lib.hid hk1; clear hp1 hb1 hk1
  go_wp2_with fail
  refine (kid_any H2.out id m (get_app hm _) (by omega) ns.length).mono ?_
  rintro e w3 ⟨rfl, hp2, hb2, hk2⟩
  have H3 := Lib.hid hp2; have B3 := Lib.hid hb2; have K3 := Lib.hid hk2; clear hp2 hb2 hk2
  go_wp2_with fail
  go_end0
  refine ⟨rfl, ?_, TT.out.2.1.trans (B2.out.trans B3.out), TT.out.2.2.1.trans (K2.out.trans K3.out)⟩
  rw [← T.out]
  exact H3.out

/-- The parser stands ahead of these tokens. -/
def PL (w : World) (base pb : Nat) (ts left : List Tk) (en : Nat) (ns : List Nd) : Prop := ∃ i, i ≤ ts.length ∧ ts.drop i = left ∧ PSx w base pb ts i en ns
def VPost (e0 : Ending) (base pb : Nat) (ts left : List Tk) (en : Nat) (ns : List Nd) (w : World) (e : Ending) (w' : World) : Prop := e = e0 ∧ PL w' base pb ts left en ns ∧ Below base w w' ∧ Keeps w w'
/-- There is room, and the tokens stand in their row. -/
def Rm (B : Nat) (ts left : List Tk) (en : Nat) (ns : List Nd) : Prop := ts.length ≤ 300 ∧ ns.length + 6 * left.length ≤ B ∧ ∃ lo, Srt en lo left

theorem drop_cons {ts r : List Tk} {i : Nat} {t : Tk} (h : ts.drop i = t :: r) : ts[i]? = some t ∧ ts.drop (i + 1) = r ∧ i < ts.length := by
  have hi : i < ts.length := by
    apply Nat.lt_of_not_le
    intro hle
    rw [List.drop_eq_nil_of_le hle] at h
    cases h
  rw [List.drop_eq_getElem_cons hi] at h
  injection h with h1 h2
  exact ⟨by rw [List.getElem?_eq_getElem hi, h1], h2, hi⟩

def ValC (n : Nat) : Prop := ∀ (base pb : Nat) (ts : List Tk) (en : Nat) (t : Tk) (r : List Tk) (ns : List Nd) (w : World) (d : Nat), PL w base pb ts (t :: r) en ns → Rm 3000 ts (t :: r) en ns → 4 * (r.length + 1) ≤ n → starts t d = true → d ≤ 13 →
  Calls Tryz.prog 59 #[.pointer (some ⟨pb, 0, none⟩), .int .i64 d] w (VPost (.returned (.int .i64 ns.length)) base pb ts (valF n en d (t :: r)).2 en (ns ++ (valF n en d (t :: r)).1.flat nid ns.length) w)
def LstC (n : Nat) : Prop := ∀ (base pb : Nat) (ts : List Tk) (en : Nat) (left : List Tk) (ns : List Nd) (w : World) (id : Nat) (m : Nd) (c d : Nat), PL w base pb ts left en ns → Rm 2995 ts left en ns → 4 * left.length + 3 ≤ n → ns[id]? = some m → m.kids = [] → c = 1 ∨ c = 3 → d ≤ 12 →
  Calls Tryz.prog 105 #[.pointer (some ⟨pb, 0, none⟩), .int .i64 id, .int .i64 c, .int .i64 d] w (VPost (.returned (.tuple #[])) base pb ts (lstF n en c d 0 left).2.2 en (clN (gro ns id (lstF n en c d 0 left).1) id (max (lstF n en c d 0 left).2.1 ((lstF n en c d 0 left).1.last 0) : Nat)) w)
def ElmC (n : Nat) : Prop := ∀ (base pb : Nat) (ts : List Tk) (en : Nat) (t : Tk) (r : List Tk) (ns : List Nd) (w : World) (id : Nat) (m : Nd) (c d : Nat), PL w base pb ts (t :: r) en ns → Rm 2996 ts (t :: r) en ns → 4 * (r.length + 1) + 2 ≤ n → ns[id]? = some m → m.kids.length ≤ 3500 → starts t (d + 1) = true → c = 1 ∨ c = 3 → d ≤ 12 →
  Calls Tryz.prog 140 #[.pointer (some ⟨pb, 0, none⟩), .int .i64 id, .int .i64 c, .int .i64 d] w (VPost (.returned (.tuple #[])) base pb ts (elmF n en c d (t :: r)).2 en (gro ns id (elmF n en c d (t :: r)).1) w)
def PrC (n : Nat) : Prop := ∀ (base pb : Nat) (ts : List Tk) (en : Nat) (t : Tk) (r : List Tk) (ns : List Nd) (w : World) (x : Nat) (m : Nd) (d : Nat) (fr T : Nat) (ks : Fo), PL w base pb ts (t :: r) en ns → Rm 2997 ts (t :: r) en ns → 4 * (r.length + 1) + 1 ≤ n → ns[x]? = some m → m.kids = [] → t.k = 6 → d ≤ 12 → (prF n en d (t :: r)).1 = .cons 3 fr T ks .nil →
  Calls Tryz.prog 150 #[.pointer (some ⟨pb, 0, none⟩), .int .i64 x, .int .i64 d] w (VPost (.returned (.tuple #[])) base pb ts (prF n en d (t :: r)).2 en (clN (gro ns x ks) x T) w)

theorem val_is (n e d : Nat) (t : Tk) (r : List Tk) : valF (n + 1) e d (t :: r) =
      (if t.k == 6 then (.cons 4 t.fr (Tk.to t) .nil .nil, r)
      else if t.k == 7 then (.cons 5 t.fr (Tk.to t) .nil .nil, r)
      else if t.k == 8 then (.cons 6 t.fr (Tk.to t) .nil .nil, r)
      else if t.k == 0 then (.cons 1 t.fr (max (lstF n e 1 d 0 r).2.1 ((lstF n e 1 d 0 r).1.last 0)) (lstF n e 1 d 0 r).1 .nil, (lstF n e 1 d 0 r).2.2)
      else (.cons 2 t.fr (max (lstF n e 3 d 0 r).2.1 ((lstF n e 3 d 0 r).1.last 0)) (lstF n e 3 d 0 r).1 .nil, (lstF n e 3 d 0 r).2.2)) := by
  rw [valF.eq_def]
theorem Rm.next {ts r : List Tk} {en : Nat} {ns : List Nd} {t : Tk} (h : Rm 3000 ts (t :: r) en ns) (x : Nd) : Rm 2995 ts r en (ns ++ [x]) := by
  obtain ⟨h1, h2, lo, h3⟩ := h
  exact ⟨h1, by rw [List.length_append, List.length_singleton]; rw [List.length_cons] at h2; omega, _, h3.2.2⟩

-- value
set_option maxRecDepth 100000 in
set_option maxHeartbeats 1000000 in
theorem value_6 {base pb : Nat} {ts : List Tk} {en : Nat} {fr tt : Nat} {r : List Tk} {ns : List Nd} {w : World} {d : Nat} (h : PL w base pb ts (⟨6, fr, tt⟩ :: r) en ns) (hr : Rm 3000 ts (⟨6, fr, tt⟩ :: r) en ns) :
    Calls Tryz.prog 59 #[.pointer (some ⟨pb, 0, none⟩), .int .i64 d] w (VPost (.returned (.int .i64 ns.length)) base pb ts r en (ns ++ [⟨ns.length, (4 : Nat), fr, tt, []⟩]) w) := by
  obtain ⟨i, hi, hd, tv, nv, vs, h⟩ := h
  obtain ⟨ht, hd1, hlt⟩ := drop_cons hd
  have hroom := hr.2.1
  have h300 := hr.1
  rw [List.length_cons] at hroom
  have H := Lib.hid h; clear h
  have D1 := Lib.hid hd1; clear hd hd1
  have R := Lib.hid hr; clear hr
  go_enter Tryz.func59, Tryz.ntmps59
  go_wp2_with fail
  refine (next_yes H.out ht).mono ?_
  rintro e w1 ⟨rfl, hb1⟩
  have TT := Lib.hid (take_tok H.out hb1 ⟨6, fr, tt⟩)
  have H1 := Lib.hid (H.out.below hb1); clear hb1
  obtain ⟨c0, c1, c2, c3, c4, c5, cf, hpb⟩ := H1.out.cells
  go_wp2_with fail
  change Calls Tryz.prog 53 _ ((w1.setCell ⟨pb, 1, none⟩ (.int .i64 ((i : Int) + 1))).alloc (tkO ⟨6, fr, tt⟩)) _
  generalize (w1.setCell ⟨pb, 1, none⟩ (.int .i64 ((i : Int) + 1))).alloc (tkO ⟨6, fr, tt⟩) = X at TT ⊢
  clear c0 c1 c2 c3 c4 c5 cf
  refine (node_any TT.out.1 (by omega) 4 fr tt).mono ?_
  rintro e w2 ⟨rfl, hp1, hb1, hk1⟩
  have H2 := Lib.hid hp1; have B2 := Lib.hid hb1; have K2 := Lib.hid hk1; clear hp1 hb1 hk1
  go_wp2_with fail
  go_ret
  exact ⟨rfl, ⟨i + 1, hlt, D1.out, H2.out⟩, TT.out.2.1.trans B2.out, TT.out.2.2.1.trans K2.out⟩
set_option maxRecDepth 100000 in
set_option maxHeartbeats 1000000 in
theorem value_7 {base pb : Nat} {ts : List Tk} {en : Nat} {fr tt : Nat} {r : List Tk} {ns : List Nd} {w : World} {d : Nat} (h : PL w base pb ts (⟨7, fr, tt⟩ :: r) en ns) (hr : Rm 3000 ts (⟨7, fr, tt⟩ :: r) en ns) :
    Calls Tryz.prog 59 #[.pointer (some ⟨pb, 0, none⟩), .int .i64 d] w (VPost (.returned (.int .i64 ns.length)) base pb ts r en (ns ++ [⟨ns.length, (5 : Nat), fr, tt, []⟩]) w) := by
  obtain ⟨i, hi, hd, tv, nv, vs, h⟩ := h
  obtain ⟨ht, hd1, hlt⟩ := drop_cons hd
  have hroom := hr.2.1
  have h300 := hr.1
  rw [List.length_cons] at hroom
  have H := Lib.hid h; clear h
  have D1 := Lib.hid hd1; clear hd hd1
  have R := Lib.hid hr; clear hr
  go_enter Tryz.func59, Tryz.ntmps59
  go_wp2_with fail
  refine (next_yes H.out ht).mono ?_
  rintro e w1 ⟨rfl, hb1⟩
  have TT := Lib.hid (take_tok H.out hb1 ⟨7, fr, tt⟩)
  have H1 := Lib.hid (H.out.below hb1); clear hb1
  obtain ⟨c0, c1, c2, c3, c4, c5, cf, hpb⟩ := H1.out.cells
  go_wp2_with fail
  change Calls Tryz.prog 53 _ ((w1.setCell ⟨pb, 1, none⟩ (.int .i64 ((i : Int) + 1))).alloc (tkO ⟨7, fr, tt⟩)) _
  generalize (w1.setCell ⟨pb, 1, none⟩ (.int .i64 ((i : Int) + 1))).alloc (tkO ⟨7, fr, tt⟩) = X at TT ⊢
  clear c0 c1 c2 c3 c4 c5 cf
  refine (node_any TT.out.1 (by omega) 5 fr tt).mono ?_
  rintro e w2 ⟨rfl, hp1, hb1, hk1⟩
  have H2 := Lib.hid hp1; have B2 := Lib.hid hb1; have K2 := Lib.hid hk1; clear hp1 hb1 hk1
  go_wp2_with fail
  go_ret
  exact ⟨rfl, ⟨i + 1, hlt, D1.out, H2.out⟩, TT.out.2.1.trans B2.out, TT.out.2.2.1.trans K2.out⟩
set_option maxRecDepth 100000 in
set_option maxHeartbeats 1000000 in
theorem value_8 {base pb : Nat} {ts : List Tk} {en : Nat} {fr tt : Nat} {r : List Tk} {ns : List Nd} {w : World} {d : Nat} (h : PL w base pb ts (⟨8, fr, tt⟩ :: r) en ns) (hr : Rm 3000 ts (⟨8, fr, tt⟩ :: r) en ns) :
    Calls Tryz.prog 59 #[.pointer (some ⟨pb, 0, none⟩), .int .i64 d] w (VPost (.returned (.int .i64 ns.length)) base pb ts r en (ns ++ [⟨ns.length, (6 : Nat), fr, tt, []⟩]) w) := by
  obtain ⟨i, hi, hd, tv, nv, vs, h⟩ := h
  obtain ⟨ht, hd1, hlt⟩ := drop_cons hd
  have hroom := hr.2.1
  have h300 := hr.1
  rw [List.length_cons] at hroom
  have H := Lib.hid h; clear h
  have D1 := Lib.hid hd1; clear hd hd1
  have R := Lib.hid hr; clear hr
  go_enter Tryz.func59, Tryz.ntmps59
  go_wp2_with fail
  refine (next_yes H.out ht).mono ?_
  rintro e w1 ⟨rfl, hb1⟩
  have TT := Lib.hid (take_tok H.out hb1 ⟨8, fr, tt⟩)
  have H1 := Lib.hid (H.out.below hb1); clear hb1
  obtain ⟨c0, c1, c2, c3, c4, c5, cf, hpb⟩ := H1.out.cells
  go_wp2_with fail
  change Calls Tryz.prog 53 _ ((w1.setCell ⟨pb, 1, none⟩ (.int .i64 ((i : Int) + 1))).alloc (tkO ⟨8, fr, tt⟩)) _
  generalize (w1.setCell ⟨pb, 1, none⟩ (.int .i64 ((i : Int) + 1))).alloc (tkO ⟨8, fr, tt⟩) = X at TT ⊢
  clear c0 c1 c2 c3 c4 c5 cf
  refine (node_any TT.out.1 (by omega) 6 fr tt).mono ?_
  rintro e w2 ⟨rfl, hp1, hb1, hk1⟩
  have H2 := Lib.hid hp1; have B2 := Lib.hid hb1; have K2 := Lib.hid hk1; clear hp1 hb1 hk1
  go_wp2_with fail
  go_ret
  exact ⟨rfl, ⟨i + 1, hlt, D1.out, H2.out⟩, TT.out.2.1.trans B2.out, TT.out.2.2.1.trans K2.out⟩
set_option maxRecDepth 100000 in
set_option maxHeartbeats 1000000 in
theorem value_0 {n : Nat} (hL : LstC n) {base pb : Nat} {ts : List Tk} {en : Nat} {fr tt : Nat} {r : List Tk} {ns : List Nd} {w : World} {d : Nat} (h : PL w base pb ts (⟨0, fr, tt⟩ :: r) en ns) (hr : Rm 3000 ts (⟨0, fr, tt⟩ :: r) en ns) (hn : 4 * r.length + 3 ≤ n) (h12 : d ≤ 12) :
    Calls Tryz.prog 59 #[.pointer (some ⟨pb, 0, none⟩), .int .i64 d] w (VPost (.returned (.int .i64 ns.length)) base pb ts (lstF n en 1 d 0 r).2.2 en (clN (gro (ns ++ [⟨ns.length, (1 : Nat), fr, tt, []⟩]) ns.length (lstF n en 1 d 0 r).1) ns.length (max (lstF n en 1 d 0 r).2.1 ((lstF n en 1 d 0 r).1.last 0) : Nat)) w) := by
  have L := Lib.hid hL; clear hL
  obtain ⟨i, hi, hd, tv, nv, vs, h⟩ := h
  obtain ⟨ht, hd1, hlt⟩ := drop_cons hd
  have hroom := hr.2.1
  have h300 := hr.1
  rw [List.length_cons] at hroom
  have H := Lib.hid h; clear h
  have D1 := Lib.hid hd1; clear hd hd1
  have R := Lib.hid hr; clear hr
  go_enter Tryz.func59, Tryz.ntmps59
  go_wp2_with fail
  refine (next_yes H.out ht).mono ?_
  rintro e w1 ⟨rfl, hb1⟩
  have TT := Lib.hid (take_tok H.out hb1 ⟨0, fr, tt⟩)
  have H1 := Lib.hid (H.out.below hb1); clear hb1
  obtain ⟨c0, c1, c2, c3, c4, c5, cf, hpb⟩ := H1.out.cells
  go_wp2_with fail
  change Calls Tryz.prog 53 _ ((w1.setCell ⟨pb, 1, none⟩ (.int .i64 ((i : Int) + 1))).alloc (tkO ⟨0, fr, tt⟩)) _
  generalize (w1.setCell ⟨pb, 1, none⟩ (.int .i64 ((i : Int) + 1))).alloc (tkO ⟨0, fr, tt⟩) = X at TT ⊢
  clear c0 c1 c2 c3 c4 c5 cf
  refine (node_any TT.out.1 (by omega) 1 fr tt).mono ?_
  rintro e w2 ⟨rfl, hp1, hb1, hk1⟩
  have H2 := Lib.hid hp1; have B2 := Lib.hid hb1; have K2 := Lib.hid hk1; clear hp1 hb1 hk1
  go_wp2_with fail
  refine (L.out base pb ts en r (ns ++ [⟨ns.length, (1 : Nat), fr, tt, []⟩]) w2 ns.length ⟨ns.length, (1 : Nat), fr, tt, []⟩ 1 d ⟨i + 1, hlt, D1.out, H2.out⟩ (R.out.next _) hn (by simp) rfl (by omega) h12).mono ?_
  rintro e w3 ⟨rfl, hp2, hb2, hk2⟩
  have H3 := Lib.hid hp2; have B3 := Lib.hid hb2; have K3 := Lib.hid hk2; clear hp2 hb2 hk2
  go_wp2_with fail
  go_ret
  exact ⟨rfl, H3.out, TT.out.2.1.trans (B2.out.trans B3.out), TT.out.2.2.1.trans (K2.out.trans K3.out)⟩
set_option maxRecDepth 100000 in
set_option maxHeartbeats 1000000 in
theorem value_2 {n : Nat} (hL : LstC n) {base pb : Nat} {ts : List Tk} {en : Nat} {fr tt : Nat} {r : List Tk} {ns : List Nd} {w : World} {d : Nat} (h : PL w base pb ts (⟨2, fr, tt⟩ :: r) en ns) (hr : Rm 3000 ts (⟨2, fr, tt⟩ :: r) en ns) (hn : 4 * r.length + 3 ≤ n) (h12 : d ≤ 12) :
    Calls Tryz.prog 59 #[.pointer (some ⟨pb, 0, none⟩), .int .i64 d] w (VPost (.returned (.int .i64 ns.length)) base pb ts (lstF n en 3 d 0 r).2.2 en (clN (gro (ns ++ [⟨ns.length, (2 : Nat), fr, tt, []⟩]) ns.length (lstF n en 3 d 0 r).1) ns.length (max (lstF n en 3 d 0 r).2.1 ((lstF n en 3 d 0 r).1.last 0) : Nat)) w) := by
  have L := Lib.hid hL; clear hL
  obtain ⟨i, hi, hd, tv, nv, vs, h⟩ := h
  obtain ⟨ht, hd1, hlt⟩ := drop_cons hd
  have hroom := hr.2.1
  have h300 := hr.1
  rw [List.length_cons] at hroom
  have H := Lib.hid h; clear h
  have D1 := Lib.hid hd1; clear hd hd1
  have R := Lib.hid hr; clear hr
  go_enter Tryz.func59, Tryz.ntmps59
  go_wp2_with fail
  refine (next_yes H.out ht).mono ?_
  rintro e w1 ⟨rfl, hb1⟩
  have TT := Lib.hid (take_tok H.out hb1 ⟨2, fr, tt⟩)
  have H1 := Lib.hid (H.out.below hb1); clear hb1
  obtain ⟨c0, c1, c2, c3, c4, c5, cf, hpb⟩ := H1.out.cells
  go_wp2_with fail
  change Calls Tryz.prog 53 _ ((w1.setCell ⟨pb, 1, none⟩ (.int .i64 ((i : Int) + 1))).alloc (tkO ⟨2, fr, tt⟩)) _
  generalize (w1.setCell ⟨pb, 1, none⟩ (.int .i64 ((i : Int) + 1))).alloc (tkO ⟨2, fr, tt⟩) = X at TT ⊢
  clear c0 c1 c2 c3 c4 c5 cf
  refine (node_any TT.out.1 (by omega) 2 fr tt).mono ?_
  rintro e w2 ⟨rfl, hp1, hb1, hk1⟩
  have H2 := Lib.hid hp1; have B2 := Lib.hid hb1; have K2 := Lib.hid hk1; clear hp1 hb1 hk1
  go_wp2_with fail
  refine (L.out base pb ts en r (ns ++ [⟨ns.length, (2 : Nat), fr, tt, []⟩]) w2 ns.length ⟨ns.length, (2 : Nat), fr, tt, []⟩ 3 d ⟨i + 1, hlt, D1.out, H2.out⟩ (R.out.next _) hn (by simp) rfl (by omega) h12).mono ?_
  rintro e w3 ⟨rfl, hp2, hb2, hk2⟩
  have H3 := Lib.hid hp2; have B3 := Lib.hid hb2; have K3 := Lib.hid hk2; clear hp2 hb2 hk2
  go_wp2_with fail
  go_ret
  exact ⟨rfl, H3.out, TT.out.2.1.trans (B2.out.trans B3.out), TT.out.2.2.1.trans (K2.out.trans K3.out)⟩
theorem value_step {n : Nat} (hL : LstC n) : ValC (n + 1) := by
  intro base pb ts en t r ns w d hp hr hn hst hd
  obtain ⟨k, fr, tt⟩ := t
  rw [val_is]
  dsimp only
  by_cases h6 : k = 6
  · subst h6
    exact value_6 hp hr
  by_cases h7 : k = 7
  · subst h7
    exact value_7 hp hr
  by_cases h8 : k = 8
  · subst h8
    exact value_8 hp hr
  have hd12 : d ≤ 12 ∧ (k = 0 ∨ k = 2) := by
    unfold starts at hst
    simp only [Bool.or_eq_true, Bool.and_eq_true, beq_iff_eq, decide_eq_true_eq] at hst
    omega
  by_cases h0 : k = 0
  · subst h0
    have := value_0 hL hp hr (by omega) hd12.1
    rw [close_tree] at this
    exact this
  · have h2 : k = 2 := by omega
    subst h2
    have := value_2 hL hp hr (by omega) hd12.1
    rw [close_tree] at this
    exact this

theorem kidN_len (ns : List Nd) (id : Nat) (c : Int) : (kidN ns id c).length = ns.length := by unfold kidN; rw [List.length_modify]
/-- A node made last, and added below another one: it stands there without children. -/
theorem kidN_last {ns : List Nd} {id : Nat} (h : id < ns.length) (x : Nd) (c : Int) : (kidN (ns ++ [x]) id c)[ns.length]? = some x := by
  unfold kidN
  rw [mod_app_left _ _ _ _ h, List.getElem?_append_right (by rw [List.length_modify]; exact Nat.le_refl _), List.length_modify, Nat.sub_self]
  rfl
theorem val_one (n e d : Nat) (t : Tk) (r : List Tk) : ∃ kd fr tt k, (valF n e d (t :: r)).1 = .cons kd fr tt k .nil := by
  cases n with
  | zero => exact ⟨_, _, _, _, by rw [valF.eq_def]⟩
  | succ n =>
    rw [val_is]
    split
    · exact ⟨_, _, _, _, rfl⟩
    split
    · exact ⟨_, _, _, _, rfl⟩
    split
    · exact ⟨_, _, _, _, rfl⟩
    split
    · exact ⟨_, _, _, _, rfl⟩
    · exact ⟨_, _, _, _, rfl⟩
theorem Rm.mono {B B' : Nat} {ts left : List Tk} {en : Nat} {ns ns' : List Nd} (h : Rm B ts left en ns) (h' : ns'.length + B ≤ ns.length + B') : Rm B' ts left en ns' := ⟨h.1, by have := h.2.1; omega, h.2.2⟩

set_option maxRecDepth 100000 in
set_option maxHeartbeats 2000000 in
theorem wrapped_any {n : Nat} (hV : ValC n) {base pb : Nat} {ts : List Tk} {en : Nat} {t : Tk} {r : List Tk} {ns : List Nd} {w : World} {id : Nat} {m : Nd} {d : Nat} (h : PL w base pb ts (t :: r) en ns) (hr : Rm 2999 ts (t :: r) en ns) (hn : 4 * (r.length + 1) ≤ n) (hst : starts t d = true) (hd13 : d ≤ 13) (hm : ns[id]? = some m) (hk : m.kids.length ≤ 3500) :
    Calls Tryz.prog 57 #[.pointer (some ⟨pb, 0, none⟩), .int .i64 id, .int .i64 d] w (VPost (.returned (.tuple #[])) base pb ts (valF n en d (t :: r)).2 en (gro ns id (.cons 7 t.fr (max (Tk.to t) ((valF n en d (t :: r)).1.last 0)) (valF n en d (t :: r)).1 .nil)) w) := by
  have V := Lib.hid hV; clear hV
  have R := Lib.hid hr
  have hroom := hr.2.1
  rw [List.length_cons] at hroom
  have SZ : Hid ((valF n en d (t :: r)).1.size ≤ 4096) := Lib.hid (by
    obtain ⟨-, -, lo, hs⟩ := hr
    have := ((all_ok n).1 en d lo t r hs).2
    omega)
  clear hr
  have ONE := Lib.hid (val_one n en d t r)
  obtain ⟨i, hi, hd, tv, nv, vs, h⟩ := h
  obtain ⟨ht, hd1, hlt⟩ := drop_cons hd
  have hid := (List.getElem?_eq_some_iff.1 hm).1
  have H := Lib.hid h; clear h
  have D := Lib.hid hd; clear hd hd1
  go_enter Tryz.func57, Tryz.ntmps57
  go_wp2_with fail
  refine (next_yes H.out ht).mono ?_
  rintro e w1 ⟨rfl, hb1⟩
  have TT := Lib.hid (see_tok H.out hb1 t); clear hb1
  go_wp2_with fail
  change Calls Tryz.prog 53 _ (w1.alloc (tkO t)) _
  generalize w1.heap.size = b at *
  generalize w1.alloc (tkO t) = X at TT ⊢
  refine (node_any TT.out.1 (by omega) 7 t.fr (Tk.to t)).mono ?_
  rintro e w2 ⟨rfl, hp1, hb1, hk1⟩
  have H2 := Lib.hid hp1; have B2 := Lib.hid hb1; have K2 := Lib.hid hk1; clear hp1 hb1 hk1
  go_wp2_with fail
  refine (kid_any H2.out id m (get_app hm _) (by omega) ns.length).mono ?_
  rintro e w3 ⟨rfl, hp1, hb1, hk1⟩
  have H3 := Lib.hid hp1; have B3 := Lib.hid hb1; have K3 := Lib.hid hk1; clear hp1 hb1 hk1
  go_wp2_with fail
  have N2L : Hid ((kidN (ns ++ [⟨ns.length, (7 : Nat), t.fr, Tk.to t, []⟩]) id ns.length).length = ns.length + 1) := Lib.hid (by rw [kidN_len]; simp)
  have N2G : Hid ((kidN (ns ++ [⟨ns.length, (7 : Nat), t.fr, Tk.to t, []⟩]) id ns.length)[ns.length]? = some ⟨ns.length, (7 : Nat), t.fr, Tk.to t, []⟩) := Lib.hid (kidN_last hid _ _)
  have PT : Hid (∀ (F : Fo) (T : Nat), clN (gro (kidN (ns ++ [⟨ns.length, (7 : Nat), t.fr, Tk.to t, []⟩]) id ns.length) ns.length F) ns.length T = gro ns id (.cons 7 t.fr T F .nil)) := Lib.hid (fun F T => pair_tree ns id hid 7 t.fr (Tk.to t) F T)
  generalize kidN (ns ++ [⟨ns.length, (7 : Nat), t.fr, Tk.to t, []⟩]) id ns.length = N2 at N2L N2G PT H3
  refine (V.out base pb ts en t r N2 w3 d ⟨i, hi, D.out, H3.out⟩ (R.out.mono (by rw [N2L.out]; omega)) hn hst hd13).mono ?_
  rintro e w4 ⟨rfl, hp1, hb1, hk1⟩
  obtain ⟨i', hi', hdr', hp1⟩ := hp1
  have H4 := Lib.hid hp1; have B4 := Lib.hid hb1; have K4 := Lib.hid hk1; have D4 := Lib.hid hdr'; clear hp1 hb1 hk1 hdr'
  have KT : Hid (kidN (N2 ++ (valF n en d (t :: r)).1.flat nid N2.length) ns.length N2.length = gro N2 ns.length (valF n en d (t :: r)).1) := Lib.hid (by
    obtain ⟨kd, fr, tt, k, e⟩ := ONE.out
    rw [e]
    exact kid_tree N2 ns.length (by rw [N2L.out]; omega) kd fr tt k)
  generalize (valF n en d (t :: r)).1 = VF at *
  go_wp2_with fail
  refine (kid_any H4.out ns.length _ (get_app N2G.out _) (by simp) N2.length).mono ?_
  rintro e w5 ⟨rfl, hp1, hb1, hk1⟩
  rw [KT.out] at hp1
  have H5 := Lib.hid hp1; have B5 := Lib.hid hb1; have K5 := Lib.hid hk1; clear hp1 hb1 hk1
  obtain ⟨b0, b1, b2⟩ := tk_cells (K5.out.1 _ _ (K4.out.1 _ _ (K3.out.1 _ _ (K2.out.1 _ _ TT.out.2.2.2))))
  go_wp2_with fail
  refine (close_any ns.length VF H5.out _ N2G.out rfl SZ.out (Tk.to t)).mono ?_
  rintro e w6 ⟨rfl, hp1, hb1, hk1⟩
  rw [PT.out] at hp1
  have H6 := Lib.hid hp1; have B6 := Lib.hid hb1; have K6 := Lib.hid hk1; clear hp1 hb1 hk1
  go_wp2_with fail
  go_end0
  exact ⟨rfl, ⟨i', hi', D4.out, H6.out⟩, TT.out.2.1.trans (B2.out.trans (B3.out.trans (B4.out.trans (B5.out.trans B6.out)))), TT.out.2.2.1.trans (K2.out.trans (K3.out.trans (K4.out.trans (K5.out.trans K6.out))))⟩

theorem elm_is (n e c d : Nat) (t : Tk) (r : List Tk) : elmF (n + 1) e c d (t :: r) =
    (if c == 3 then valF n e (d + 1) (t :: r) else if t.k == 6 then prF n e d (t :: r) else (.cons 7 t.fr (max (Tk.to t) ((valF n e (d + 1) (t :: r)).1.last 0)) (valF n e (d + 1) (t :: r)).1 .nil, (valF n e (d + 1) (t :: r)).2)) := by
  rw [elmF.eq_def]
theorem pr_one (n e d : Nat) (t : Tk) (r : List Tk) : ∃ T ks, (prF (n + 1) e d (t :: r)).1 = .cons 3 t.fr T ks .nil := by
  rw [pr_eq]
  exact ⟨_, _, rfl⟩
theorem dplus (d : Nat) : ((d : Int) + 1) = ((d + 1 : Nat) : Int) := by omega

set_option maxRecDepth 100000 in
set_option maxHeartbeats 2000000 in
theorem element_list {n : Nat} (hV : ValC n) {base pb : Nat} {ts : List Tk} {en : Nat} {t : Tk} {r : List Tk} {ns : List Nd} {w : World} {id : Nat} {m : Nd} {d : Nat} (h : PL w base pb ts (t :: r) en ns) (hr : Rm 2996 ts (t :: r) en ns) (hn : 4 * (r.length + 1) ≤ n) (hst : starts t (d + 1) = true) (hd12 : d ≤ 12) (hm : ns[id]? = some m) (hk : m.kids.length ≤ 3500) :
    Calls Tryz.prog 140 #[.pointer (some ⟨pb, 0, none⟩), .int .i64 id, .int .i64 3, .int .i64 d] w (VPost (.returned (.tuple #[])) base pb ts (valF n en (d + 1) (t :: r)).2 en (gro ns id (valF n en (d + 1) (t :: r)).1) w) := by
  have V := Lib.hid hV; clear hV
  have R := Lib.hid hr
  have hid := (List.getElem?_eq_some_iff.1 hm).1
  have KT : Hid (kidN (ns ++ (valF n en (d + 1) (t :: r)).1.flat nid ns.length) id ns.length = gro ns id (valF n en (d + 1) (t :: r)).1) := Lib.hid (by
    obtain ⟨kd, fr, tt, k, e⟩ := val_one n en (d + 1) t r
    rw [e]
    exact kid_tree ns id hid kd fr tt k)
  clear hr
  obtain ⟨i, hi, hd, tv, nv, vs, h⟩ := h
  obtain ⟨ht, hd1, hlt⟩ := drop_cons hd
  have H := Lib.hid h; clear h
  have D := Lib.hid hd; clear hd hd1
  go_enter Tryz.func140, Tryz.ntmps140
  go_wp2_with fail
  refine (next_yes H.out ht).mono ?_
  rintro e w1 ⟨rfl, hb1⟩
  have TT := Lib.hid (see_tok H.out hb1 t); clear hb1
  go_wp2_with fail
  change Calls Tryz.prog 59 _ (w1.alloc (tkO t)) _
  generalize w1.heap.size = b at *
  generalize w1.alloc (tkO t) = X at TT ⊢
  rw [dplus]
  refine (V.out base pb ts en t r ns X (d + 1) ⟨i, hi, D.out, TT.out.1⟩ (R.out.mono (by omega)) hn hst (by omega)).mono ?_
  rintro e w2 ⟨rfl, hp1, hb1, hk1⟩
  obtain ⟨i', hi', hdr', hp1⟩ := hp1
  have H2 := Lib.hid hp1; have B2 := Lib.hid hb1; have K2 := Lib.hid hk1; have D2 := Lib.hid hdr'; clear hp1 hb1 hk1 hdr'
  generalize (valF n en (d + 1) (t :: r)).1 = VF at *
  go_wp2_with fail
  refine (kid_any H2.out id m (get_app hm _) (by omega) ns.length).mono ?_
  rintro e w3 ⟨rfl, hp1, hb1, hk1⟩
  rw [KT.out] at hp1
  have H3 := Lib.hid hp1; have B3 := Lib.hid hb1; have K3 := Lib.hid hk1; clear hp1 hb1 hk1
  go_wp2_with fail
  go_end0
  exact ⟨rfl, ⟨i', hi', D2.out, H3.out⟩, TT.out.2.1.trans (B2.out.trans B3.out), TT.out.2.2.1.trans (K2.out.trans K3.out)⟩

set_option maxRecDepth 100000 in
set_option maxHeartbeats 2000000 in
theorem element_pair {n : Nat} (hP : PrC n) {base pb : Nat} {ts : List Tk} {en : Nat} {fr tt : Nat} {r : List Tk} {ns : List Nd} {w : World} {id : Nat} {m : Nd} {d T : Nat} {ks : Fo} (h : PL w base pb ts (⟨6, fr, tt⟩ :: r) en ns) (hr : Rm 2996 ts (⟨6, fr, tt⟩ :: r) en ns) (hn : 4 * (r.length + 1) + 1 ≤ n) (hd12 : d ≤ 12) (hm : ns[id]? = some m) (hk : m.kids.length ≤ 3500) (hF : (prF n en d (⟨6, fr, tt⟩ :: r)).1 = .cons 3 fr T ks .nil) :
    Calls Tryz.prog 140 #[.pointer (some ⟨pb, 0, none⟩), .int .i64 id, .int .i64 1, .int .i64 d] w (VPost (.returned (.tuple #[])) base pb ts (prF n en d (⟨6, fr, tt⟩ :: r)).2 en (gro ns id (.cons 3 fr T ks .nil)) w) := by
  have P := Lib.hid hP; clear hP
  have R := Lib.hid hr
  have HF := Lib.hid hF
  have hroom := hr.2.1
  rw [List.length_cons] at hroom
  have hid := (List.getElem?_eq_some_iff.1 hm).1
  clear hr hF
  obtain ⟨i, hi, hd, tv, nv, vs, h⟩ := h
  obtain ⟨ht, hd1, hlt⟩ := drop_cons hd
  have H := Lib.hid h; clear h
  have D := Lib.hid hd; clear hd hd1
  go_enter Tryz.func140, Tryz.ntmps140
  go_wp2_with fail
  refine (next_yes H.out ht).mono ?_
  rintro e w1 ⟨rfl, hb1⟩
  have TT := Lib.hid (see_tok H.out hb1 ⟨6, fr, tt⟩); clear hb1
  go_wp2_with fail
  change Calls Tryz.prog 53 _ (w1.alloc (tkO ⟨6, fr, tt⟩)) _
  generalize w1.heap.size = b at *
  generalize w1.alloc (tkO ⟨6, fr, tt⟩) = X at TT ⊢
  refine (node_any TT.out.1 (by omega) 3 fr tt).mono ?_
  rintro e w2 ⟨rfl, hp1, hb1, hk1⟩
  have H2 := Lib.hid hp1; have B2 := Lib.hid hb1; have K2 := Lib.hid hk1; clear hp1 hb1 hk1
  go_wp2_with fail
  refine (kid_any H2.out id m (get_app hm _) (by omega) ns.length).mono ?_
  rintro e w3 ⟨rfl, hp1, hb1, hk1⟩
  have H3 := Lib.hid hp1; have B3 := Lib.hid hb1; have K3 := Lib.hid hk1; clear hp1 hb1 hk1
  have N2L : Hid ((kidN (ns ++ [⟨ns.length, (3 : Nat), fr, tt, []⟩]) id ns.length).length = ns.length + 1) := Lib.hid (by rw [kidN_len]; simp)
  have N2G : Hid ((kidN (ns ++ [⟨ns.length, (3 : Nat), fr, tt, []⟩]) id ns.length)[ns.length]? = some ⟨ns.length, (3 : Nat), fr, tt, []⟩) := Lib.hid (kidN_last hid _ _)
  have PT : Hid (∀ (F : Fo) (T : Nat), clN (gro (kidN (ns ++ [⟨ns.length, (3 : Nat), fr, tt, []⟩]) id ns.length) ns.length F) ns.length T = gro ns id (.cons 3 fr T F .nil)) := Lib.hid (fun F T => pair_tree ns id hid 3 fr tt F T)
  generalize kidN (ns ++ [⟨ns.length, (3 : Nat), fr, tt, []⟩]) id ns.length = N2 at N2L N2G PT H3
  go_wp2_with fail
  refine (P.out base pb ts en ⟨6, fr, tt⟩ r N2 w3 ns.length _ d fr T ks ⟨i, hi, D.out, H3.out⟩ (R.out.mono (by rw [N2L.out]; omega)) hn N2G.out rfl rfl hd12 HF.out).mono ?_
  rintro e w4 ⟨rfl, hp1, hb1, hk1⟩
  rw [PT.out] at hp1
  have H4 := Lib.hid hp1; have B4 := Lib.hid hb1; have K4 := Lib.hid hk1; clear hp1 hb1 hk1
  go_wp2_with fail
  go_end0
  exact ⟨rfl, H4.out, TT.out.2.1.trans (B2.out.trans (B3.out.trans B4.out)), TT.out.2.2.1.trans (K2.out.trans (K3.out.trans K4.out))⟩

set_option maxRecDepth 100000 in
set_option maxHeartbeats 2000000 in
theorem element_wrong {n : Nat} (hV : ValC n) {base pb : Nat} {ts : List Tk} {en : Nat} {t : Tk} {r : List Tk} {ns : List Nd} {w : World} {id : Nat} {m : Nd} {d : Nat} (h : PL w base pb ts (t :: r) en ns) (hr : Rm 2996 ts (t :: r) en ns) (hn : 4 * (r.length + 1) ≤ n) (hst : starts t (d + 1) = true) (hd12 : d ≤ 12) (hm : ns[id]? = some m) (hk : m.kids.length ≤ 3500) (h6 : t.k ≠ 6) :
    Calls Tryz.prog 140 #[.pointer (some ⟨pb, 0, none⟩), .int .i64 id, .int .i64 1, .int .i64 d] w (VPost (.returned (.tuple #[])) base pb ts (valF n en (d + 1) (t :: r)).2 en (gro ns id (.cons 7 t.fr (max (Tk.to t) ((valF n en (d + 1) (t :: r)).1.last 0)) (valF n en (d + 1) (t :: r)).1 .nil)) w) := by
  have V := Lib.hid hV; clear hV
  have R := Lib.hid hr
  clear hr
  obtain ⟨i, hi, hd, tv, nv, vs, h⟩ := h
  obtain ⟨ht, hd1, hlt⟩ := drop_cons hd
  have H := Lib.hid h; clear h
  have D := Lib.hid hd; clear hd hd1
  have q6 : ((t.k : Int) == 6) = false := by simp; omega
  go_enter Tryz.func140, Tryz.ntmps140
  go_wp2_with fail
  refine (next_yes H.out ht).mono ?_
  rintro e w1 ⟨rfl, hb1⟩
  have TT := Lib.hid (see_tok H.out hb1 t); clear hb1
  go_wp2_with fail
  change Calls Tryz.prog 57 _ (w1.alloc (tkO t)) _
  generalize w1.heap.size = b at *
  generalize w1.alloc (tkO t) = X at TT ⊢
  rw [dplus]
  refine (wrapped_any V.out (d := d + 1) ⟨i, hi, D.out, TT.out.1⟩ (R.out.mono (by omega)) hn hst (by omega) hm hk).mono ?_
  rintro e w2 ⟨rfl, hp1, hb1, hk1⟩
  have H2 := Lib.hid hp1; have B2 := Lib.hid hb1; have K2 := Lib.hid hk1; clear hp1 hb1 hk1
  go_wp2_with fail
  go_end0
  exact ⟨rfl, H2.out, TT.out.2.1.trans B2.out, TT.out.2.2.1.trans K2.out⟩

theorem element_step {n : Nat} (hV : ValC n) (hP : PrC n) : ElmC (n + 1) := by
  intro base pb ts en t r ns w id m c d hp hr hn hm hk hst hc hd
  rw [elm_is]
  rcases hc with rfl | rfl
  · obtain ⟨k, fr, tt⟩ := t
    by_cases h6 : k = 6
    · subst h6
      obtain ⟨n', rfl⟩ : ∃ n', n = n' + 1 := ⟨n - 1, by omega⟩
      obtain ⟨T, ks, hF⟩ := pr_one n' en d ⟨6, fr, tt⟩ r
      have := element_pair hP hp hr (by omega) hd hm hk hF
      rw [← hF] at this
      exact this
    · have e : ((1 : Nat) == 3) = false := rfl
      have e2 : (k == 6) = false := by simpa using h6
      simp only [e, e2]
      exact element_wrong hV hp hr (by omega) hst hd hm hk h6
  · exact element_list hV hp hr (by omega) hst hd hm hk

end Go.Proofs.YtjmfjlffcopnnaaGreatDoor
