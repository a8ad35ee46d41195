/-
  Sp3, PgO, Ta9, in one text. Conditions: as each theorem's premises say.
-/
import Derived.Test.YtjmfjlffcopnnaaGreatDoorPM16
import Derived.Test.YtjmfjlffcopnnaaGreatDoorPM19
import Derived.Test.YtjmfjlffcopnnaaGreatDoorPM25
import Derived.Test.YtjmfjlffcopnnaaGreatDoorPM21
import Derived.Test.YtjmfjlffcopnnaaGreatDoorPM24
namespace Go.Proofs.YtjmfjlffcopnnaaGreatDoor
open Go.RowKit
open Go.Proofs.YtjmfjlffcopnnaaGreatDoor.K (C RowC)

theorem SpS.touch {B : Nat → Prop} {w w' : World} {base n : Nat} {v : Value} {vs : List Sv} (h : SpS w base v n vs) (ht : Touch B w w') (hv : ∀ g, v.ownBlock = some g → ¬ B g) (hk : ∀ x ∈ vs, ∀ g, x.kv.ownBlock = some g → ¬ B g) : SpS w' base v n vs :=
  ⟨h.row.touch ht hv, h.len, fun i x hx => by
    obtain ⟨l, hl⟩ := h.kids i x hx
    exact ⟨l, hl.touch ht (hk x (List.mem_of_getElem? hx))⟩, h.apart⟩
theorem SpS.types {w w' : World} {base n g : Nat} {v : Value} {vs : List Sv} {c : Array Value} {e : TypeId} (h : SpS w base v n vs) (hg : w.grownBy w' (some g)) (hc : w.heap[g]? = some (.cells c e (0, 0))) (h1 : e ≠ 51) (h2 : e ≠ 3) : SpS w' base v n vs :=
  ⟨h.row.kept hg (fun k hk => by
      obtain ⟨cur, hcur⟩ := h.row.obj hk
      intro e0; cases e0
      exact type_ne hc hcur h1 rfl), h.len, fun i x hx => by
    obtain ⟨l, hl⟩ := h.kids i x hx
    exact ⟨l, hl.kept hg (fun k hk => by
      obtain ⟨cur, hcur⟩ := hl.obj hk
      intro e0; cases e0
      exact type_ne hc hcur h2 rfl)⟩, h.apart⟩
/-- A row of entries that may be written over, from one of them on; each entry's blocks are its own. -/
structure SpE (w : World) (base : Nat) (v : Value) (n : Nat) (B : Nat → Nat → Prop) (i : Nat) (vs : List Ev) : Prop where
  row : lyE.Own w base v vs
  len : vs.length = n
  ed : ∀ (j : Nat) x, i ≤ j → vs[j]? = some x → (∃ l, lyC.Own w base x.ev l ∧ l.length ≤ 4096) ∧ ∀ g, x.ev.ownBlock = some g → B j g
  dl : ∀ (j : Nat) x, i ≤ j → vs[j]? = some x → ∃ us, SpS w base x.dv x.dn us ∧ x.dn ≤ 100000 ∧ (∀ y ∈ us, y.kn ≤ 140737488355328 ∧ ∀ g, y.kv.ownBlock = some g → B j g) ∧ ∀ g, x.dv.ownBlock = some g → B j g
  apart : ∀ (j k g : Nat), j ≠ k → B j g → ¬ B k g
  lo : ∀ (j g : Nat), B j g → base ≤ g
  rowB : ∀ (j g : Nat), v.ownBlock = some g → ¬ B j g
theorem set_seq {vs : List Ev} {i : Nat} {x : Ev} (h : vs[i]? = some x) (u : Int) : (lyE.all vs).take (i * 4 + 1) ++ [.int .i64 u] ++ (lyE.all vs).drop (i * 4 + 1 + 1) = lyE.all (vs.set i ⟨x.cl, u, x.ep, x.en, x.ec, x.dp, x.dn, x.dc⟩) := by
  obtain ⟨h1, h2⟩ := all_split (L := lyE) h
  obtain ⟨_, hlt⟩ := split_at h
  have h3 : (lyE.all (vs.take i)).length = i * 4 := h2
  have e : lyE.all (⟨x.cl, u, x.ep, x.en, x.ec, x.dp, x.dn, x.dc⟩ :: vs.drop (i + 1)) = Ev.cells ⟨x.cl, u, x.ep, x.en, x.ec, x.dp, x.dn, x.dc⟩ ++ lyE.all (vs.drop (i + 1)) := by simp [Ly.all, lyE]
  rw [h1, List.set_eq_take_append_cons_drop, if_pos hlt, all_app, e]
  clear h1 h2 e
  generalize lyE.all (vs.take i) = A at h3 ⊢
  generalize lyE.all (vs.drop (i + 1)) = B
  rw [List.take_append, List.drop_append, List.take_of_length_le (by omega), List.drop_eq_nil_of_le (by omega), h3, show i * 4 + 1 - i * 4 = 1 by omega, show i * 4 + 1 + 1 - i * 4 = 2 by omega]
  simp [lyE, Ev.cells, Ev.ev, Ev.dv]
theorem SpE.next {w W : World} {base g n cap i : Nat} {B : Nat → Nat → Prop} {vs : List Ev} {x : Ev} (h : SpE w base (.slice (some ⟨g, 0, none⟩) n cap) n B i vs) (hx : vs[i]? = some x) (ht : Touch (B i) w W) (u : Int) :
    SpE (W.setCell ⟨g, i * 4 + 1, none⟩ (.int .i64 u)) base (.slice (some ⟨g, 0, none⟩) n cap) n B (i + 1) (vs.set i ⟨x.cl, u, x.ep, x.en, x.ec, x.dp, x.dn, x.dc⟩) := by
  have hil := (List.getElem?_eq_some_iff.1 hx).1
  have hrow : lyE.Own W base (.slice (some ⟨g, 0, none⟩) n cap) vs := h.row.touch ht (h.rowB i)
  obtain ⟨cur, hcur⟩ := hrow.obj (g := g) rfl
  have hle : i * 4 + 1 + 1 ≤ (lyE.all vs).length := by rw [all_len]; show i * 4 + 1 + 1 ≤ vs.length * 4; omega
  have hown := own_setAll [.int .i64 u] (lyE.all vs) (i * 4 + 1) W (by unfold Ly.Own at hrow; rw [h.len] at hrow; exact hrow) hle
  have gs := set_grown W g (i * 4 + 1) (.int .i64 u)
  have part : ∀ (j : Nat) y, i + 1 ≤ j → (vs.set i ⟨x.cl, u, x.ep, x.en, x.ec, x.dp, x.dn, x.dc⟩)[j]? = some y → vs[j]? = some y := fun j y hj hy => by
    rw [List.getElem?_set, if_neg (by omega)] at hy
    exact hy
  refine ⟨?_, by rw [List.length_set]; exact h.len, fun j y hj hy => ?_, fun j y hj hy => ?_, h.apart, h.lo, h.rowB⟩
  · unfold Ly.Own
    rw [List.length_set, h.len, ← set_seq hx u]
    exact hown
  · obtain ⟨⟨l, h1, h2⟩, h3⟩ := h.ed j y (by omega) (part j y hj hy)
    exact ⟨⟨l, compsOwn_kept (h1.touch ht (fun g hg => h.apart j i g (by omega) (h3 g hg))) gs hcur (by decide), h2⟩, h3⟩
  · obtain ⟨us, h1, h2, h3, h4⟩ := h.dl j y (by omega) (part j y hj hy)
    exact ⟨us, (h1.touch ht (fun g hg => h.apart j i g (by omega) (h4 g hg)) (fun x hx g hg => h.apart j i g (by omega) ((h3 x hx).2 g hg))).types gs hcur (by decide) (by decide), h2, h3, h4⟩
theorem SpE.later {w W : World} {base n i : Nat} {v : Value} {B : Nat → Nat → Prop} {vs : List Ev} (h : SpE w base v n B i vs) (hb : Below w.heap.size w W) : SpE W base v n B i vs :=
  ⟨h.row.below hb, h.len, fun j x hj hx => by
    obtain ⟨⟨l, h1, h2⟩, h3⟩ := h.ed j x hj hx
    exact ⟨⟨l, h1.below hb, h2⟩, h3⟩, fun j x hj hx => by
    obtain ⟨us, h1, h2⟩ := h.dl j x hj hx
    exact ⟨us, h1.touch (B := fun _ => False) (Touch.of_below hb) (fun _ _ => id) (fun _ _ _ _ => id), h2⟩, h.apart, h.lo, h.rowB⟩

set_option maxRecDepth 100000 in
set_option maxHeartbeats 2000000 in
theorem spoilEntries_any (base top : Nat) (B : Nat → Nat → Prop) (p : Option Addr) (vs : List Ev) (n cap : Nat) (w : World) (h : SpE w base (.slice p n cap) n B 0 vs) (hl : n ≤ 100000) (ht : ∀ j g, B j g → g < top) (hr : ∀ g, (Value.slice p n cap).ownBlock = some g → g < top) : Calls Tryz.prog 50 #[.slice p n cap] w (SpTo (fun k => base ≤ k ∧ k < top) w) := by
  have H := Lib.hid h; have HT := Lib.hid ht; have HR := Lib.hid hr
  clear h ht hr
  go_enter Tryz.func50, Tryz.ntmps50
  go_wp2_with fail
  go_loopw [2] (fun v wr => ∃ (j : Nat) (us : List Ev), j ≤ n ∧ v = .int .i64 j ∧ Hid (SpE wr base (.slice p n cap) n B j us) ∧ Hid (Touch (fun k => base ≤ k ∧ k < top) w wr)) (fun v _ => n - (intOf v).toNat)
  case atStart => exact ⟨0, vs, by omega, rfl, H, Lib.hid (Touch.refl _ _)⟩
  case round =>
    clear H
    obtain ⟨j, us, hj, rfl, S, T⟩ := hrel
    by_cases hlt : j < n
    · obtain ⟨x, hx⟩ : ∃ x, us[j]? = some x := ⟨_, List.getElem?_eq_getElem (by rw [S.out.len]; exact hlt)⟩
      obtain ⟨g, c2, e, hg1, hg2, -⟩ := S.out.row.formS (by intro e; rw [e] at hx; simp at hx)
      rw [S.out.len] at e
      cases e
      obtain ⟨⟨l, hl1, hl2⟩, hlB⟩ := S.out.ed j x (Nat.le_refl _) hx
      obtain ⟨ws, hs1, hs2, hs3, hs4⟩ := S.out.dl j x (Nat.le_refl _) hx
      have at1 := S.out.row.at hx
      have m2 : wr.cell? ⟨g, j * 4 + 2, none⟩ = some (.slice x.ep x.en x.ec) := at1 2 _ rfl
      have CALL : Hid (Calls Tryz.prog 49 #[.slice x.ep x.en x.ec] wr (fun e w' => e = .returned (.tuple #[]) ∧ wr.grownBy w' x.ev.ownBlock)) := Lib.hid (K.spoil_any base _ l wr hl1 hl2)
      have hj0 : (0 : Int) ≤ (j : Int) := by omega
      have hj1 : (j : Int) < (n : Int) := by omega
      have HX := Lib.hid hx
      have GB : Hid (base ≤ g ∧ g < top) := Lib.hid ⟨hg1, HR.out g rfl⟩
      have FR : Hid (∀ W : World, wr.grownBy W x.ev.ownBlock → W.cell? ⟨g, j * 4 + 3, none⟩ = some (.slice x.dp x.dn x.dc) ∧ Calls Tryz.prog 101 #[.slice x.dp x.dn x.dc] W (SpTo (B j) W) ∧ Touch (B j) wr W) := Lib.hid (fun W hW => by
        cases hev : x.ev.ownBlock with
        | none =>
          rw [hev] at hW
          have hb : Below wr.heap.size wr W := ⟨hW.os, hW.tape, hW.output, hW.size, fun k hk => hW.block k hk (by simp)⟩
          refine ⟨(S.out.row.below hb).at HX.out 3 _ rfl, ?_, Touch.of_below hb⟩
          exact spoilSteps_t base (B j) _ ws _ _ W (hs1.touch (B := fun _ => False) (Touch.of_below hb) (fun _ _ => id) (fun _ _ _ _ => id)) hs4 hs2 hs3
        | some k =>
          rw [hev] at hW
          obtain ⟨ck, hck⟩ := hl1.obj hev
          have hr : lyE.Own W base (.slice (some ⟨g, 0, none⟩) n cap) us := S.out.row.kept hW (fun q hq e => by
            cases e
            obtain ⟨c1, h1⟩ := S.out.row.obj hq
            exact type_ne h1 hck (by decide) rfl)
          refine ⟨hr.at HX.out 3 _ rfl, ?_, Touch.of_grown hW (fun q hq => by cases hq; exact hlB _ hev)⟩
          exact spoilSteps_t base (B j) _ ws _ _ W (hs1.types hW hck (by decide) (by decide)) hs4 hs2 hs3)
      have RW : Hid (∀ W : World, Touch (B j) wr W → W.cell? ⟨g, j * 4 + 1, none⟩ = some (.int .i64 x.sq) ∧ W.frozen? ⟨g, j * 4 + 1, none⟩ = false) := Lib.hid (fun W hW => by
        have hr : lyE.Own W base (.slice (some ⟨g, 0, none⟩) n cap) us := S.out.row.touch hW (S.out.rowB j)
        exact ⟨hr.at HX.out 1 _ rfl, hr.frozen _⟩)
      clear at1 hx hl1 hlB hs1 hs3 hs4 hg1 hg2
      go_upto_region 4 with (go_at_call 49; refine CALL.out.mono ?_; rintro e w4 ⟨rfl, hg⟩; obtain ⟨d3, d4, d5⟩ := FR.out w4 hg; have C2 := Lib.hid d4; have T4 := Lib.hid d5; clear hg d4 d5)
      go_upto_region 5 with (go_at_call 101; refine C2.out.mono ?_; rintro e w5 ⟨rfl, ht⟩; have T5 := Lib.hid (T4.out.trans ht); obtain ⟨d1, df⟩ := RW.out w5 T5.out; clear ht)
      go_wp2_with fail
      go_roundw
      case rel =>
        refine ⟨j + 1, _, by omega, by go_num, Lib.hid (S.out.next HX.out T5.out _), Lib.hid ?_⟩
        have b5 := T.out.trans (T5.out.mono (fun k _ hk => ⟨S.out.lo j k hk, HT.out j k hk⟩))
        exact b5.trans (Touch.of_grown (set_grown w5 g _ _) (fun k e => by cases e; exact GB.out))
      case measure => simp [intOf]; omega
    · go_wp2_with fail
      (try simp only [Exit.inBlock, Exit.then])
      refine bodyPost_ret (results_none rfl _ _ _) rfl ?_
      exact ⟨rfl, T.out⟩

end Go.Proofs.YtjmfjlffcopnnaaGreatDoor

namespace Go.Proofs.YtjmfjlffcopnnaaGreatDoor
open Go.Proofs.YtjmfjlffcopnnaaGreatDoor.K (C)

def Dn {α : Type} (f : Ts → α × Ts) : Prop := ∀ t, (f t).2.1.length ≤ t.1.length
theorem num_dn : Dn pNum := fun t => pDig_len 44 t
theorem count_dn : Dn pCount := fun t => by
  have := num_dn t
  unfold pCount
  split
  · exact this
  · exact this
theorem str_dn : Dn pStr := fun t => by
  have := pDig_len 58 t
  unfold pStr
  split
  · exact this
  · dsimp only
    rw [List.length_drop]
    omega
theorem row_dn {α : Type} {f : Ts → α × Ts} (hf : Dn f) : ∀ (k : Nat) (acc : List α) (t : Ts), (pRow f k acc t).2.1.length ≤ t.1.length
  | 0, _, t => Nat.le_refl _
  | k + 1, acc, t => by
    unfold pRow
    split
    · exact Nat.le_refl _
    · exact Nat.le_trans (row_dn hf k _ _) (hf t)
theorem list_dn {α : Type} {f : Ts → α × Ts} (hf : Dn f) : Dn (pList f) := fun t => Nat.le_trans (row_dn hf _ _ _) (count_dn t)
theorem row_all {α : Type} {f : Ts → α × Ts} {M : Nat} {P : α → Prop} (hf : Dn f) (hP : ∀ t : Ts, t.1.length ≤ M → P (f t).1) : ∀ (k : Nat) (acc : List α) (t : Ts), t.1.length ≤ M → (∀ x ∈ acc, P x) → (pRow f k acc t).1.length ≤ acc.length + k ∧ ∀ x ∈ (pRow f k acc t).1, P x
  | 0, acc, t, _, ha => ⟨Nat.le_refl _, ha⟩
  | k + 1, acc, t, ht, ha => by
    unfold pRow
    split
    · exact ⟨by dsimp only; omega, ha⟩
    · have := row_all hf hP k (acc ++ [(f t).1]) (f t).2 (Nat.le_trans (hf t) ht) (fun x hx => by
        rcases List.mem_append.1 hx with hx | hx
        · exact ha x hx
        · rw [List.mem_singleton.1 hx]; exact hP t ht)
      refine ⟨?_, this.2⟩
      have h1 := this.1
      rw [List.length_append, List.length_singleton] at h1
      omega
theorem list_all {α : Type} {f : Ts → α × Ts} {M : Nat} {P : α → Prop} (hf : Dn f) (hP : ∀ t : Ts, t.1.length ≤ M → P (f t).1) (t : Ts) (ht : t.1.length ≤ M) : (pList f t).1.length ≤ M ∧ ∀ x ∈ (pList f t).1, P x := by
  have h1 := count_le t
  have h2 := row_all hf hP (pCount t).1.toNat [] (pCount t).2 (Nat.le_trans (count_dn t) ht) (fun x hx => by cases hx)
  unfold pList
  refine ⟨?_, h2.2⟩
  have := h2.1
  rw [List.length_nil] at this
  omega
theorem nums_le {M : Nat} (t : Ts) (ht : t.1.length ≤ M) : (pList pNum t).1.length ≤ M := (list_all (P := fun _ => True) num_dn (fun _ _ => trivial) t ht).1
theorem nums_dn : Dn (pList pNum) := list_dn num_dn
theorem node_dn : Dn pNode := fun t => by
  unfold pNode
  dsimp only
  exact Nat.le_trans (nums_dn _) (Nat.le_trans (num_dn _) (Nat.le_trans (num_dn _) (Nat.le_trans (num_dn _) (num_dn _))))
theorem node_kids {M : Nat} (t : Ts) (ht : t.1.length ≤ M) : (pNode t).1.kids.length ≤ M := by
  unfold pNode
  dsimp only
  exact nums_le _ (Nat.le_trans (num_dn _) (Nat.le_trans (num_dn _) (Nat.le_trans (num_dn _) (Nat.le_trans (num_dn _) ht))))
theorem step_dn : Dn pStep := fun t => by
  unfold pStep
  dsimp only
  exact Nat.le_trans (nums_dn _) (Nat.le_trans (num_dn _) (Nat.le_trans (num_dn _) (Nat.le_trans (num_dn _) (Nat.le_trans (num_dn _) (num_dn _)))))
theorem step_kids {M : Nat} (t : Ts) (ht : t.1.length ≤ M) : (pStep t).1.kids.length ≤ M := by
  unfold pStep
  dsimp only
  exact nums_le _ (Nat.le_trans (num_dn _) (Nat.le_trans (num_dn _) (Nat.le_trans (num_dn _) (Nat.le_trans (num_dn _) (Nat.le_trans (num_dn _) ht)))))
theorem comp_dn (c : UInt8) : Dn (pComp c) := fun t => by
  unfold pComp
  split
  · exact num_dn t
  split
  · exact num_dn t
  · exact str_dn t
theorem compRow_dn : ∀ (k : Nat) (acc : List C) (t : Ts), (pCompRow k acc t).2.1.length ≤ t.1.length ∧ (pCompRow k acc t).1.length ≤ acc.length + k
  | 0, _, t => ⟨Nat.le_refl _, Nat.le_refl _⟩
  | k + 1, acc, t => by
    unfold pCompRow
    split
    · exact ⟨Nat.le_refl _, by dsimp only; omega⟩
    · split
      · exact ⟨by simp, by simp⟩
      · rename_i c r h
        have h1 := compRow_dn k (acc ++ [(pComp c (r, t.2)).1]) (pComp c (r, t.2)).2
        have h2 := comp_dn c (r, t.2)
        dsimp only at h2
        rw [h, List.length_cons]
        rw [List.length_append, List.length_singleton] at h1
        exact ⟨by omega, by omega⟩
theorem comps_dn : Dn pComps := fun t => Nat.le_trans (compRow_dn _ _ _).1 (count_dn t)
theorem comps_le {M : Nat} (t : Ts) (ht : t.1.length ≤ M) : (pComps t).1.length ≤ M := by
  have h1 := count_le t
  have h2 := (compRow_dn (pCount t).1.toNat [] (pCount t).2).2
  unfold pComps
  rw [List.length_nil] at h2
  omega
theorem ent_dn : Dn pEnt := fun t => by
  unfold pEnt
  dsimp only
  exact Nat.le_trans (list_dn step_dn _) (Nat.le_trans (comps_dn _) (Nat.le_trans (num_dn _) (num_dn _)))
def EnL (M : Nat) (e : En) : Prop := e.ed.length ≤ M ∧ e.dl.length ≤ M ∧ ∀ s ∈ e.dl, s.kids.length ≤ M
theorem ent_le {M : Nat} (t : Ts) (ht : t.1.length ≤ M) : EnL M (pEnt t).1 := by
  have h1 : (pNum (pNum t).2).2.1.length ≤ M := Nat.le_trans (num_dn _) (Nat.le_trans (num_dn _) ht)
  have h2 := comps_le (M := M) (pNum (pNum t).2).2 h1
  have h3 := list_all (P := fun s : St => s.kids.length ≤ M) step_dn (fun t ht => step_kids t ht) (pComps (pNum (pNum t).2).2).2 (Nat.le_trans (comps_dn _) h1)
  unfold pEnt
  exact ⟨h2, h3.1, h3.2⟩
theorem pstr_le {M : Nat} (t : Ts) (ht : t.1.length ≤ M) : (pStr t).1.length ≤ M := by
  have := pDig_len 58 t
  unfold pStr
  split
  · exact Nat.zero_le _
  · dsimp only
    rw [List.length_take]
    omega
theorem ptree_le {M : Nat} (t : Ts) (ht : t.1.length ≤ M) : (pTree t).1.2.2.length ≤ M ∧ ∀ x ∈ (pTree t).1.2.2, x.kids.length ≤ M := by
  have h1 : (pNum (pNum t).2).2.1.length ≤ M := Nat.le_trans (num_dn _) (Nat.le_trans (num_dn _) ht)
  exact list_all (P := fun s : Nd => s.kids.length ≤ M) node_dn (fun t ht => node_kids t ht) (pNum (pNum t).2).2 h1
/-- A message that was taken is no longer than the text. -/
theorem msg_z (h : UInt8) (t : Ts) (ht : t.1.length ≤ 1000000) : MsZ (pMsg h t).1 := by
  have h2 : (pNum (pNum t).2).2.1.length ≤ 1000000 := Nat.le_trans (num_dn _) (Nat.le_trans (num_dn _) ht)
  have h3 : (pNum (pNum (pNum t).2).2).2.1.length ≤ 1000000 := Nat.le_trans (num_dn _) h2
  have lt : (1000000 : Nat) ≤ 140737488355328 := by decide
  unfold pMsg
  dsimp only
  split
  · have h4 := comps_le (M := 1000000) _ h3
    exact ⟨Nat.le_trans h4 lt, Nat.zero_le _, Nat.zero_le _, Nat.zero_le _, fun x hx => (by cases hx), fun x hx => (by cases hx)⟩
  split
  · have h4 := list_all (M := 1000000) (P := EnL 1000000) ent_dn (fun t ht => ent_le t ht) _ h2
    refine ⟨Nat.zero_le _, Nat.le_trans h4.1 lt, Nat.zero_le _, Nat.zero_le _, fun x hx => (by cases hx), fun x hx => ?_⟩
    have h5 := h4.2 x hx
    exact ⟨Nat.le_trans h5.1 lt, Nat.le_trans h5.2.1 lt, fun s hs => Nat.le_trans (h5.2.2 s hs) lt⟩
  · have k : ∀ t : Ts, t.1.length ≤ 1000000 → (pNum t).2.1.length ≤ 1000000 := fun t h => Nat.le_trans (num_dn t) h
    have h4 := k _ (k _ (k _ h3))
    revert h4
    generalize (pNum (pNum (pNum (pNum (pNum (pNum t).2).2).2).2).2).2 = t6
    intro h4
    have h5 := pstr_le (M := 1000000) t6 h4
    have h7 : (pStr t6).2.1.length ≤ 1000000 := Nat.le_trans (str_dn t6) h4
    generalize pStr t6 = s7 at h5 h7 ⊢
    have h6 := ptree_le (M := 1000000) s7.2 h7
    generalize pTree s7.2 = t8 at h6 ⊢
    have e : ∀ z : List UInt8, (⟨z.toArray⟩ : ByteArray).size = z.length := fun z => by simp [ByteArray.size]
    exact ⟨Nat.zero_le _, Nat.zero_le _, Nat.le_trans h6.1 lt, (by dsimp only; rw [e]; exact Nat.le_trans h5 lt), fun x hx => Nat.le_trans (h6.2 x hx) lt, fun x hx => (by cases hx)⟩
/-- What a text is: a message's that may be, or none's. -/
theorem get_yes {s : List UInt8} {h : UInt8} {l : List UInt8} (hs : s = h :: l) {m : Ms} (hm : MsMay m) (he : msgC m [] = s) : pMsg h (l, false) = (m, [], false) := by
  obtain ⟨h1, h2⟩ := msg_rt hm
  rw [he, hs] at h1
  rw [he, hs] at h2
  have e1 : msgK m = h := by
    have := List.head_eq_of_cons_eq h1
    exact this.symm
  rw [← e1]
  exact h2

end Go.Proofs.YtjmfjlffcopnnaaGreatDoor

namespace Go.Proofs.YtjmfjlffcopnnaaGreatDoor
open Go.RowKit
open Go.Proofs.YtjmfjlffcopnnaaGreatDoor.K (C RowC)

structure OwnM (w : World) (base : Nat) (m : Ms) (q : Mq) : Prop where
  ed : lyC.Own w base (.slice q.ep m.ed.length q.ec) m.ed
  es : ∃ vs, OwnE w base (.slice q.sp m.es.length q.sc) vs m.es
  ns : ∃ vs, OwnT w base (.slice q.np m.ns.length q.nc) vs m.ns
theorem OwnM.read {w : World} {base : Nat} {m : Ms} {q : Mq} (h : OwnM w base m q) : MsR w m q := by
  obtain ⟨h1, ⟨es, h2⟩, ns, h3⟩ := h
  exact ⟨own_rowC h1, h2.read, h3.read⟩
theorem OwnM.kept {w w' : World} {base g : Nat} {m : Ms} {q : Mq} {c : Array Value} {e : TypeId} (h : OwnM w base m q) (hg : w.grownBy w' (some g)) (hc : w.heap[g]? = some (.cells c e (0, 0))) (h1 : e ≠ 54) (h2 : e ≠ 48) (h3 : e ≠ 51) (h4 : e ≠ 3) (h5 : e ≠ 109) : OwnM w' base m q := by
  obtain ⟨a1, ⟨es, a2⟩, ns, a3⟩ := h
  exact ⟨compsOwn_kept a1 hg hc h2, ⟨es, a2.kept hg hc h1 h2 h3 h4⟩, ns, a3.kept hg hc h5 h4⟩
theorem OwnM.below {w w' : World} {base : Nat} {m : Ms} {q : Mq} (h : OwnM w base m q) (hb : Below w.heap.size w w') : OwnM w' base m q := by
  obtain ⟨a1, ⟨es, a2⟩, ns, a3⟩ := h
  exact ⟨a1.below hb, ⟨es, a2.below hb⟩, ns, a3.below hb⟩
theorem OwnE.mono {w : World} {base base' : Nat} {v : Value} {vs : List Ev} {es : List En} (h : OwnE w base v vs es) (hb : base' ≤ base) : OwnE w base' v vs es :=
  ⟨h.row.mono hb, h.len, fun i x s hx hs => (h.fit i x s hx hs).mono hb⟩
theorem OwnM.mono {w : World} {base base' : Nat} {m : Ms} {q : Mq} (h : OwnM w base m q) (hb : base' ≤ base) : OwnM w base' m q := by
  obtain ⟨a1, ⟨es, a2⟩, ns, a3⟩ := h
  exact ⟨a1.mono hb, ⟨es, a2.mono hb⟩, ns, a3.mono hb⟩
theorem ownC_none (w : World) (base : Nat) : lyC.Own w base (.slice none 0 0) [] := Ly.Own.nil w base
/-- The zero message. -/
def ms0 : Ms := ⟨0, 0, 0, 0, 0, 0, false, ⟨#[]⟩, 0, 0, [], [], []⟩
def mq0 : Mq := ⟨none, 0, none, 0, none, 0⟩
def GetP (s : ByteArray) (w : World) (e : Ending) (w' : World) : Prop := Below w.heap.size w w' ∧
  ((∃ m q, e = .returned (.tuple #[msV m q, .int .i64 0]) ∧ MsMay m ∧ msgC m [] = bytesOf s ∧ s.size ≤ 1000000 ∧ OwnM w' w.heap.size m q)
  ∨ (e = .returned (.tuple #[msV ms0 mq0, .int .i64 1700]) ∧ ¬ ∃ m, MsMay m ∧ msgC m [] = bytesOf s ∧ s.size ≤ 1000000))
theorem get_no {s : ByteArray} {h : UInt8} {l : List UInt8} (hs : bytesOf s = h :: l) {m : Ms} {r : List UInt8} {d : Bool} (hp : pMsg h (l, false) = (m, r, d)) (hc : d = true ∨ ¬ (MsMay m ∧ (msgC m []).length ≤ 1000000) ∨ msgC m [] ≠ bytesOf s) : ¬ ∃ m, MsMay m ∧ msgC m [] = bytesOf s ∧ s.size ≤ 1000000 := by
  rintro ⟨m2, h1, h2, h3⟩
  have := get_yes hs h1 h2
  rw [this] at hp
  cases hp
  rcases hc with hc | hc | hc
  · cases hc
  · exact hc ⟨h1, by rw [h2, bytes_len]; exact h3⟩
  · exact hc h2
theorem get_short {s : ByteArray} (hs : s.size < 1) : ¬ ∃ m, MsMay m ∧ msgC m [] = bytesOf s ∧ s.size ≤ 1000000 := by
  rintro ⟨m2, h1, h2, h3⟩
  have e := (msg_rt h1).1
  rw [h2] at e
  have := congrArg List.length e
  rw [bytes_len, List.length_cons] at this
  omega
theorem bytes_head {s : ByteArray} {c : UInt8} (h0 : 0 < s.size) (hc : s[0] = c) : bytesOf s = c :: fromL s 1 := by
  have := from_cons h0
  rw [hc] at this
  rw [← this]
  simp [fromL, bytesOf]
theorem poll_eq {t t1 t2 t3 t4 : Ts} {x1 x2 x3 : Int} {ed : List C} (h1 : pNum t = (x1, t1)) (h2 : pNum t1 = (x2, t2)) (h3 : pNum t2 = (x3, t3)) (h4 : pComps t3 = (ed, t4)) : pMsg 80 t = (⟨0, x1, x2, x3, 0, 0, false, ⟨#[]⟩, 0, 0, [], ed, []⟩, t4) := by
  unfold pMsg
  simp [h1, h2, h3, h4]
theorem changes_eq {t t1 t2 t3 t4 : Ts} {x1 x2 : Int} {K : Nat} {es : List En} (h1 : pNum t = (x1, t1)) (h2 : pNum t1 = (x2, t2)) (h3 : pCount t2 = ((K : Int), t3)) (h4 : pRow pEnt K [] t3 = (es, t4)) : pMsg 67 t = (⟨1, x1, x2, 0, 0, 0, false, ⟨#[]⟩, 0, 0, [], [], es⟩, t4) := by
  unfold pMsg pList
  simp [h1, h2, h3, h4]
theorem snap_eq {c : UInt8} (hc1 : ¬ c = 80) (hc2 : ¬ c = 67) {t t1 t2 t3 t4 t5 t6 t7 t8 : Ts} {x1 x2 x3 x4 x5 x6 ro nx : Int} {z : ByteArray} {ns : List Nd} (h1 : pNum t = (x1, t1)) (h2 : pNum t1 = (x2, t2)) (h3 : pNum t2 = (x3, t3)) (h4 : pNum t3 = (x4, t4)) (h5 : pNum t4 = (x5, t5)) (h6 : pNum t5 = (x6, t6)) (h7 : pStr t6 = (bytesOf z, t7)) (h8 : pTree t7 = ((ro, nx, ns), t8)) : pMsg c t = (⟨2, x1, x2, x3, x4, x5, x6 == 1, z, ro, nx, ns, [], []⟩, t8) := by
  have e : (⟨(bytesOf z).toArray⟩ : ByteArray) = z := by simp [bytesOf]
  unfold pMsg
  simp [h1, h2, h3, h4, h5, h6, h7, h8, hc1, hc2, e]
theorem get_fin_no {s : ByteArray} {h : UInt8} {l : List UInt8} (hs : bytesOf s = h :: l) {m : Ms} {r : List UInt8} {d : Bool} (hp : pMsg h (l, false) = (m, r, d)) {w : World} {rb : Nat} (hr : w.heap.size ≤ rb) (us : List Value) {W : World} (hb : Below w.heap.size w W) (hc : d = true ∨ ¬ (MsMay m ∧ (msgC m []).length ≤ 1000000) ∨ msgC m [] ≠ bytesOf s) : GetP s w (.returned (.tuple #[msV ms0 mq0, .int .i64 1700])) (setAll W rb 0 us) :=
  ⟨hb.trans (below_grown (setAll_one W rb 0 us) hr hb.size), .inr ⟨rfl, get_no hs hp hc⟩⟩
theorem get_fin_yes {s : ByteArray} {m : Ms} {q : Mq} {w u : World} {rb : Nat} (hs : s.size ≤ 1000000) (hr : w.heap.size ≤ rb) (us : List Value) {c : Array Value} (ho : OwnM u w.heap.size m q) (hR : u.heap[rb]? = some (.cells c 28 (0, 0))) (hu : Below w.heap.size w u) {W : World} (hb : Below u.heap.size u W) (hm : MsMay m) (he : msgC m [] = bytesOf s) : GetP s w (.returned (.tuple #[msV m q, .int .i64 0])) (setAll W rb 0 us) :=
  ⟨(hu.trans (hb.mono hu.size)).trans (below_grown (setAll_one W rb 0 us) hr (Nat.le_trans hu.size hb.size)), .inl ⟨m, q, rfl, hm, he, hs, (ho.below hb).kept (setAll_one W rb 0 us) (heap_later hR hb) (by decide) (by decide) (by decide) (by decide) (by decide)⟩⟩

end Go.Proofs.YtjmfjlffcopnnaaGreatDoor
