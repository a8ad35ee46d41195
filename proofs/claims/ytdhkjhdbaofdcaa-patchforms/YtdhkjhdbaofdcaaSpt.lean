/-
  The walk of SpoilTree (the verifier's own): what it writes over is of the call's own. Conditions: as each theorem's premises say.
-/
import Derived.Test.YtdhkjhdbaofdcaaSp1
namespace Go.Proofs.Ytdhkjhdbaofdcaa
open Go.RowKit

/-- A row of nodes that may be written over: their children lie apart. -/
structure SpT (w : World) (base : Nat) (v : Value) (n : Nat) (vs : List Nv) : Prop where
  row : lyN.Own w base v vs
  len : vs.length = n
  kids : ∀ (i : Nat) x, vs[i]? = some x → ∃ l, lyI.Own w base x.kv l
  apart : ∀ (i j : Nat) x y g, vs[i]? = some x → vs[j]? = some y → i ≠ j → x.kv.ownBlock = some g → y.kv.ownBlock ≠ some g
theorem OwnT.spt {w : World} {base n cap : Nat} {p : Option Addr} {vs : List Nv} {ns : List Nd} (h : OwnT w base (.slice p n cap) vs ns) : SpT w base (.slice p n cap) n vs := by
  have hl : vs.length = n := by
    obtain ⟨p', c', e⟩ := h.row.form
    cases e; rfl
  exact ⟨h.row, hl, fun i x hx => ⟨_, (h.fit i x _ hx (List.getElem?_eq_getElem (by rw [← h.len]; exact (List.getElem?_eq_some_iff.1 hx).1))).2.2.2.2⟩, h.apart⟩
theorem OwnT.kn {w : World} {base : Nat} {v : Value} {vs : List Nv} {ns : List Nd} (h : OwnT w base v vs ns) {b : Nat} (hk : ∀ s ∈ ns, s.kids.length ≤ b) : ∀ x ∈ vs, x.kn ≤ b := by
  intro x hx
  obtain ⟨i, hi⟩ := List.mem_iff_getElem?.1 hx
  have hl : i < ns.length := by rw [← h.len]; exact (List.getElem?_eq_some_iff.1 hi).1
  obtain ⟨_, _, _, _, f⟩ := h.fit i x _ hi (List.getElem?_eq_getElem hl)
  obtain ⟨kp, kc, hkv⟩ := f.form
  unfold Nv.kv at hkv
  simp only [Value.slice.injEq] at hkv
  rw [hkv.2.1]
  exact hk _ (List.getElem_mem hl)
theorem set_from {vs : List Nv} {i : Nat} {x : Nv} (h : vs[i]? = some x) (u : Int) : (lyN.all vs).take (i * 5 + 2) ++ [.int .i64 u] ++ (lyN.all vs).drop (i * 5 + 2 + 1) = lyN.all (vs.set i ⟨x.id, x.kd, u, x.tt, x.kp, x.kn, x.kc⟩) := by
  obtain ⟨h1, h2⟩ := all_split (L := lyN) h
  obtain ⟨_, hlt⟩ := split_at h
  have h3 : (lyN.all (vs.take i)).length = i * 5 := h2
  have e : lyN.all (⟨x.id, x.kd, u, x.tt, x.kp, x.kn, x.kc⟩ :: vs.drop (i + 1)) = Nv.cells ⟨x.id, x.kd, u, x.tt, x.kp, x.kn, x.kc⟩ ++ lyN.all (vs.drop (i + 1)) := by simp [Ly.all, lyN]
  rw [h1, List.set_eq_take_append_cons_drop, if_pos hlt, all_app, e]
  clear h1 h2 e
  generalize lyN.all (vs.take i) = A at h3 ⊢
  generalize lyN.all (vs.drop (i + 1)) = B
  rw [List.take_append, List.drop_append, List.take_of_length_le (by omega), List.drop_eq_nil_of_le (by omega), h3, show i * 5 + 2 - i * 5 = 2 by omega, show i * 5 + 2 + 1 - i * 5 = 3 by omega]
  simp [lyN, Nv.cells, Nv.kv]
theorem SpT.spoil {w W : World} {base g n cap i : Nat} {vs : List Nv} {x : Nv} (h : SpT w base (.slice (some ⟨g, 0, none⟩) n cap) n vs) (hx : vs[i]? = some x) {ys : List Int} (hk : lyI.Own W base x.kv ys) (hg : w.grownBy W x.kv.ownBlock) (u : Int) :
    SpT (W.setCell ⟨g, i * 5 + 2, none⟩ (.int .i64 u)) base (.slice (some ⟨g, 0, none⟩) n cap) n (vs.set i ⟨x.id, x.kd, u, x.tt, x.kp, x.kn, x.kc⟩) := by
  have hil := (List.getElem?_eq_some_iff.1 hx).1
  obtain ⟨l0, hl0⟩ := h.kids i x hx
  have hrow : lyN.Own W base (.slice (some ⟨g, 0, none⟩) n cap) vs := h.row.kept hg (fun k hkk e => by
    obtain ⟨c1, h1⟩ := h.row.obj hkk
    obtain ⟨c2, h2⟩ := hl0.obj e
    exact type_ne h1 h2 (by decide) rfl)
  obtain ⟨cur, hcur⟩ := hrow.obj (g := g) rfl
  have hle : i * 5 + 2 + 1 ≤ (lyN.all vs).length := by rw [all_len]; show i * 5 + 2 + 1 ≤ vs.length * 5; omega
  have hown := own_setAll [.int .i64 u] (lyN.all vs) (i * 5 + 2) W (by unfold Ly.Own at hrow; rw [h.len] at hrow; exact hrow) hle
  have part : ∀ (j : Nat) y, (vs.set i ⟨x.id, x.kd, u, x.tt, x.kp, x.kn, x.kc⟩)[j]? = some y → ∃ z, vs[j]? = some z ∧ y.kv = z.kv ∧ (i = j → z = x) := fun j y hy => by
    rw [List.getElem?_set] at hy
    by_cases e : i = j
    · rw [if_pos e] at hy
      subst e
      rw [if_pos hil] at hy
      cases hy
      exact ⟨x, hx, rfl, fun _ => rfl⟩
    · rw [if_neg e] at hy
      exact ⟨y, hy, rfl, fun e2 => absurd e2 e⟩
  refine ⟨?_, by rw [List.length_set]; exact h.len, fun j y hy => ?_, fun j k y z q hy hz hjk hq => ?_⟩
  · unfold Ly.Own
    rw [List.length_set, h.len, ← set_from hx u]
    exact hown
  · obtain ⟨z, hz, he, hi⟩ := part j y hy
    rw [he]
    have keep : ∀ l, lyI.Own W base z.kv l → lyI.Own (W.setCell ⟨g, i * 5 + 2, none⟩ (.int .i64 u)) base z.kv l := fun l ho => ho.kept (set_grown ..) (fun k hkk e => by
      cases e
      obtain ⟨c2, h2⟩ := ho.obj hkk
      exact type_ne hcur h2 (by decide) rfl)
    by_cases e : i = j
    · rw [hi e] at keep ⊢
      exact ⟨ys, keep ys hk⟩
    · obtain ⟨l, hl⟩ := h.kids j z hz
      exact ⟨l, keep l (hl.kept hg (fun k hkk e2 => h.apart i j x z k hx hz e e2 hkk))⟩
  · obtain ⟨y2, hy2, he, _⟩ := part j y hy
    obtain ⟨z2, hz2, hf, _⟩ := part k z hz
    rw [he] at hq
    rw [hf]
    exact h.apart j k y2 z2 q hy2 hz2 hjk hq
theorem SpT.drew {w : World} {base n : Nat} {v : Value} {vs : List Nv} (h : SpT w base v n vs) : SpT w.drew base v n vs := by
  have hb : Below w.heap.size w w.drew := below_drew (Below.refl _ _)
  exact ⟨h.row.below hb, h.len, fun i x hx => by
    obtain ⟨l, hl⟩ := h.kids i x hx
    exact ⟨l, hl.below hb⟩, h.apart⟩

def SpTB (base : Nat) (w : World) (e : Ending) (w' : World) : Prop := e = .returned (.tuple #[]) ∧ Below base w w'

set_option maxRecDepth 100000 in
set_option maxHeartbeats 2000000 in
theorem spoilTree_any (base : Nat) (root next : Int) (p : Option Addr) (vs : List Nv) (n cap : Nat) (w : World) (h : SpT w base (.slice p n cap) n vs) (hb : base ≤ w.heap.size) (hl : n ≤ 100000) (hk : ∀ x ∈ vs, x.kn ≤ 140737488355328) : Calls Try.prog 13 #[.agg #[.int .i64 root, .int .i64 next, .slice p n cap]] w (SpTB base w) := by
  have HK := Lib.hid hk; have HB := Lib.hid hb
  have bb : Below w.heap.size w (w.alloc (.cells #[.int .i64 root, .int .i64 next, .slice p n cap] 24)) := below1 (Below.refl _ _) (Nat.le_refl _) _
  have H : Hid (SpT (w.alloc (.cells #[.int .i64 root, .int .i64 next, .slice p n cap] 24)) base (.slice p n cap) n vs) := Lib.hid ⟨h.row.below bb, h.len, fun i x hx => by
    obtain ⟨l, hl⟩ := h.kids i x hx
    exact ⟨l, hl.below bb⟩, h.apart⟩
  have BW : Hid (Below base w (w.alloc (.cells #[.int .i64 root, .int .i64 next, .slice p n cap] 24))) := Lib.hid (bb.mono hb)
  have XB : Hid ((w.alloc (.cells #[.int .i64 root, .int .i64 next, .slice p n cap] 24)).heap[w.heap.size]? = some (.cells #[.int .i64 root, .int .i64 next, .slice p n cap] 24 (0, 0))) := Lib.hid (heap_alloc_new w _)
  clear h hk hb bb
  go_enter Try.func13, Try.ntmps13
  go_upto_region 1 with fail
  generalize (w.alloc (.cells #[.int .i64 root, .int .i64 next, .slice p n cap] 24)) = w1 at H BW XB ⊢
  obtain ⟨tb, htb⟩ : ∃ g, g = w.heap.size := ⟨_, rfl⟩
  rw [← htb] at XB ⊢
  clear htb
  go_wp2_with fail
  go_loopw [2] (fun v wr => ∃ (j : Nat) (us : List Nv), j ≤ n ∧ v = .int .i64 j ∧ Hid (SpT wr base (.slice p n cap) n us) ∧ Hid (∀ x ∈ us, x.kn ≤ 140737488355328) ∧ Hid (Below base w wr) ∧ Hid (wr.heap[tb]? = some (.cells #[.int .i64 root, .int .i64 next, .slice p n cap] 24 (0, 0)))) (fun v _ => n - (intOf v).toNat)
  case atStart => exact ⟨0, vs, by omega, rfl, H, HK, BW, XB⟩
  case round =>
    clear H HK BW XB
    obtain ⟨j, us, hj, rfl, S, K, B, X⟩ := hrel
    have x2 := (obj_cells X.out).1 2 _ rfl
    by_cases hlt : j < n
    · obtain ⟨x, hx⟩ : ∃ x, us[j]? = some x := ⟨_, List.getElem?_eq_getElem (by rw [S.out.len]; exact hlt)⟩
      obtain ⟨g, c2, e, hg1, hg2, -⟩ := S.out.row.formS (by intro e; rw [e] at hx; simp at hx)
      rw [S.out.len] at e
      cases e
      obtain ⟨l, hkl⟩ := S.out.kids j x hx
      obtain ⟨kp, kc, e⟩ := hkl.form
      have hll : x.kn = l.length := (Value.slice.inj e).2.1
      have at1 := S.out.row.at hx
      have c4 : wr.cell? ⟨g, j * 5 + 4, none⟩ = some (.slice x.kp x.kn x.kc) := at1 4 _ rfl
      have kx := K.out x (List.mem_of_getElem? hx)
      have CALL := Lib.hid (spoilInts_any base x.kp l x.kn x.kc hll.symm wr hkl kx)
      have hj0 : (0 : Int) ≤ (j : Int) := by omega
      have hj1 : (j : Int) < (n : Int) := by omega
      have HX := Lib.hid hx
      have BK : Hid (∀ g, x.kv.ownBlock = some g → base ≤ g) := Lib.hid (fun g hg => (hkl.lt hg).1)
      have GB : Hid (base ≤ g) := Lib.hid hg1
      have FR : Hid (∀ W : World, wr.grownBy W x.kv.ownBlock → W.cell? ⟨g, j * 5 + 2, none⟩ = some (.int .i64 x.fr) ∧ W.frozen? ⟨g, j * 5 + 2, none⟩ = false ∧ W.heap[tb]? = some (.cells #[.int .i64 root, .int .i64 next, .slice (some ⟨g, 0, none⟩) n cap] 24 (0, 0)) ∧ tb ≠ g) := Lib.hid (fun W hW => by
        have hr : lyN.Own W base (.slice (some ⟨g, 0, none⟩) n cap) us := S.out.row.kept hW (fun k hkk e => by
          obtain ⟨c1, h1⟩ := S.out.row.obj hkk
          obtain ⟨c2, h2⟩ := hkl.obj e
          exact type_ne h1 h2 (by decide) rfl)
        obtain ⟨c1, h1⟩ := S.out.row.obj (g := g) rfl
        refine ⟨hr.at HX.out 2 _ rfl, hr.frozen _, (hW.block tb (Array.getElem?_eq_some_iff.1 X.out).1 (fun e => ?_)).trans X.out, type_ne X.out h1 (by decide)⟩
        obtain ⟨c2, h2⟩ := hkl.obj e.symm
        exact type_ne X.out h2 (by decide) rfl)
      clear at1 hx hkl e hll hg1 hg2
      go_upto_region 5 with (go_at_call 33; refine CALL.out.mono ?_; rintro e w5 ⟨rfl, ys, hy1, hy2, hy3⟩; obtain ⟨d1, df, X5, ne⟩ := FR.out w5 hy3; have Y1 := Lib.hid hy1; have Y3 := Lib.hid hy3; clear hy1 hy2 hy3)
      have HX5 := Lib.hid X5
      have y2 := (obj_cells X5).1 2 _ rfl
      clear x2 c4 X5
      go_region
      go_wp2_with fail
      go_roundw
      case rel =>
        refine ⟨j + 1, _, by omega, by go_num, Lib.hid (S.out.spoil HX.out Y1.out Y3.out _).drew, Lib.hid ?_, Lib.hid ?_, Lib.hid ?_⟩
        · intro z hz
          rcases List.mem_or_eq_of_mem_set hz with hz | hz
          · exact K.out z hz
          · rw [hz]; exact kx
        · have b5 := B.out.trans (below_grownN Y3.out BK.out (Nat.le_trans HB.out B.out.size))
          exact below_drew (below_set b5 GB.out _)
        · exact ((set_grown w5 g (j * 5 + 2) _).block tb (Array.getElem?_eq_some_iff.1 HX5.out).1 (fun e => ne (Option.some.inj e))).trans HX5.out
      case measure => simp [intOf]; omega
    · go_wp2_with fail
      (try simp only [Exit.inBlock, Exit.then])
      refine bodyPost_ret (results_none rfl _ _ _) rfl ?_
      exact ⟨rfl, B.out⟩

end Go.Proofs.Ytdhkjhdbaofdcaa
