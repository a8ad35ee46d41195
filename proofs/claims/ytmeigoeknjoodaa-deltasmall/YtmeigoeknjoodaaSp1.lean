/-
  The walks of SpoilInts and SpoilSteps (the verifier's own): what they write over is of the call's own. Conditions: as each theorem's premises say.
-/
import Derived.Test.YtmeigoeknjoodaaCo1
namespace Go.Proofs.Ytmeigoeknjoodaa
open Go.RowKit

def SpI (base : Nat) (v : Value) (n : Nat) (w : World) (e : Ending) (w' : World) : Prop := e = .returned (.tuple #[]) ∧ ∃ ys, lyI.Own w' base v ys ∧ ys.length = n ∧ w.grownBy w' v.ownBlock

set_option maxRecDepth 100000 in
set_option maxHeartbeats 1000000 in
theorem spoilInts_any (base : Nat) (p : Option Addr) (xs : List Int) (n cap : Nat) (hn : xs.length = n) (w : World) (h : lyI.Own w base (.slice p n cap) xs) (hl : n ≤ 140737488355328) : Calls Try.prog 27 #[.slice p n cap] w (SpI base (.slice p n cap) n w) := by
  have H := Lib.hid h; have HN := Lib.hid hn
  clear h hn
  go_enter Try.func27, Try.ntmps27
  go_wp2_with fail
  go_loopw [2] (fun v wr => ∃ (j : Nat) (ys : List Int), j ≤ n ∧ v = .int .i64 j ∧ Hid (ys.length = n) ∧ Hid (lyI.Own wr base (.slice p n cap) ys) ∧ Hid (w.grownBy wr (Value.slice p n cap).ownBlock)) (fun v _ => n - (intOf v).toNat)
  case atStart => exact ⟨0, xs, by omega, rfl, HN, H, Lib.hid (grown_refl _ _)⟩
  case round =>
    clear H HN
    obtain ⟨j, ys, hj, rfl, LN, O, G⟩ := hrel
    by_cases hlt : j < n
    · obtain ⟨y, hy⟩ : ∃ y, ys[j]? = some y := ⟨_, List.getElem?_eq_getElem (by rw [LN.out]; exact hlt)⟩
      obtain ⟨g, c2, e, -⟩ := O.out.formS (by intro e; rw [e] at hy; simp at hy)
      rw [LN.out] at e
      cases e
      have c0 : wr.cell? ⟨g, j, none⟩ = some (.int .i64 y) := by
        have := O.out.at hy 0 _ rfl
        rwa [show j * lyI.sz + 0 = j from Nat.mul_one j] at this
      have f0 := O.out.frozen j
      have hj0 : (0 : Int) ≤ (j : Int) := by omega
      have hj1 : (j : Int) < (n : Int) := by omega
      have ST : Hid (∀ u : Int, lyI.Own (wr.setCell ⟨g, j, none⟩ (.int .i64 u)) base (.slice (some ⟨g, 0, none⟩) n cap) (ys.set j u)) := Lib.hid (fun u => by
        have := O.out.set hy u
        rwa [show j * lyI.sz = j from Nat.mul_one j] at this)
      have GT : Hid (∀ u : Int, w.grownBy (wr.setCell ⟨g, j, none⟩ (.int .i64 u)) (some g)) := Lib.hid (fun u => grown_set G.out _)
      clear hy
      go_wp2_with fail
      go_roundw
      case rel => exact ⟨j + 1, _, by omega, by go_num, Lib.hid (by rw [List.length_set]; exact LN.out), Lib.hid (ST.out _), Lib.hid (GT.out _)⟩
      case measure => simp [intOf]; omega
    · go_wp2_with fail
      (try simp only [Exit.inBlock, Exit.then])
      refine bodyPost_ret (results_none rfl _ _ _) rfl ?_
      exact ⟨rfl, ys, O.out, LN.out, G.out⟩

/-- A row of steps that may be written over: its steps' children lie apart. -/
structure SpS (w : World) (base : Nat) (v : Value) (n : Nat) (vs : List Sv) : Prop where
  row : lyS.Own w base v vs
  len : vs.length = n
  kids : ∀ (i : Nat) x, vs[i]? = some x → ∃ l, lyI.Own w base x.kv l
  apart : ∀ (i j : Nat) x y g, vs[i]? = some x → vs[j]? = some y → i ≠ j → x.kv.ownBlock = some g → y.kv.ownBlock ≠ some g
theorem set_id {vs : List Sv} {i : Nat} {x : Sv} (h : vs[i]? = some x) (u : Int) : (lyS.all vs).take (i * 6 + 1) ++ [.int .i64 u] ++ (lyS.all vs).drop (i * 6 + 1 + 1) = lyS.all (vs.set i ⟨x.kd, u, x.nd, x.fr, x.tt, x.kp, x.kn, x.kc⟩) := by
  obtain ⟨h1, h2⟩ := all_split (L := lyS) h
  obtain ⟨_, hlt⟩ := split_at h
  have h3 : (lyS.all (vs.take i)).length = i * 6 := h2
  have e : lyS.all (⟨x.kd, u, x.nd, x.fr, x.tt, x.kp, x.kn, x.kc⟩ :: vs.drop (i + 1)) = Sv.cells ⟨x.kd, u, x.nd, x.fr, x.tt, x.kp, x.kn, x.kc⟩ ++ lyS.all (vs.drop (i + 1)) := by simp [Ly.all, lyS]
  rw [h1, List.set_eq_take_append_cons_drop, if_pos hlt, all_app, e]
  clear h1 h2 e
  generalize lyS.all (vs.take i) = A at h3 ⊢
  generalize lyS.all (vs.drop (i + 1)) = B
  rw [List.take_append, List.drop_append, List.take_of_length_le (by omega), List.drop_eq_nil_of_le (by omega), h3, show i * 6 + 1 - i * 6 = 1 by omega, show i * 6 + 1 + 1 - i * 6 = 2 by omega]
  simp [lyS, Sv.cells, Sv.kv]
theorem SpS.spoil {w W : World} {base g n cap i : Nat} {vs : List Sv} {x : Sv} (h : SpS w base (.slice (some ⟨g, 0, none⟩) n cap) n vs) (hx : vs[i]? = some x) {ys : List Int} (hk : lyI.Own W base x.kv ys) (hg : w.grownBy W x.kv.ownBlock) (u : Int) :
    SpS (W.setCell ⟨g, i * 6 + 1, none⟩ (.int .i64 u)) base (.slice (some ⟨g, 0, none⟩) n cap) n (vs.set i ⟨x.kd, u, x.nd, x.fr, x.tt, x.kp, x.kn, x.kc⟩) := by
  have hil := (List.getElem?_eq_some_iff.1 hx).1
  obtain ⟨l0, hl0⟩ := h.kids i x hx
  have hrow : lyS.Own W base (.slice (some ⟨g, 0, none⟩) n cap) vs := h.row.kept hg (fun k hkk e => by
    obtain ⟨c1, h1⟩ := h.row.obj hkk
    obtain ⟨c2, h2⟩ := hl0.obj e
    exact type_ne h1 h2 (by decide) rfl)
  obtain ⟨cur, hcur⟩ := hrow.obj (g := g) rfl
  have hle : i * 6 + 1 + 1 ≤ (lyS.all vs).length := by rw [all_len]; show i * 6 + 1 + 1 ≤ vs.length * 6; omega
  have hown := own_setAll [.int .i64 u] (lyS.all vs) (i * 6 + 1) W (by unfold Ly.Own at hrow; rw [h.len] at hrow; exact hrow) hle
  have part : ∀ (j : Nat) y, (vs.set i ⟨x.kd, u, x.nd, x.fr, x.tt, x.kp, x.kn, x.kc⟩)[j]? = some y → ∃ z, vs[j]? = some z ∧ y.kv = z.kv ∧ (i = j → z = x) := fun j y hy => by
    rw [List.getElem?_set] at hy
    by_cases e : i = j
    · rw [if_pos e] at hy
      subst e
      rw [if_pos hil] at hy
      cases hy
      exact ⟨x, hx, rfl, fun _ => rfl⟩
    · rw [if_neg e] at hy
      exact ⟨y, hy, rfl, fun e2 => absurd e2 e⟩
  refine ⟨?_, by rw [List.length_set]; exact h.len, fun j y hy => ?_, fun j k y z q hy hz hjk hq => ?_⟩
  · unfold Ly.Own
    rw [List.length_set, h.len, ← set_id hx u]
    exact hown
  · obtain ⟨z, hz, he, hi⟩ := part j y hy
    rw [he]
    have keep : ∀ l, lyI.Own W base z.kv l → lyI.Own (W.setCell ⟨g, i * 6 + 1, none⟩ (.int .i64 u)) base z.kv l := fun l ho => ho.kept (set_grown ..) (fun k hkk e => by
      cases e
      obtain ⟨c2, h2⟩ := ho.obj hkk
      exact type_ne hcur h2 (by decide) rfl)
    by_cases e : i = j
    · rw [hi e] at keep ⊢
      exact ⟨ys, keep ys hk⟩
    · obtain ⟨l, hl⟩ := h.kids j z hz
      exact ⟨l, keep l (hl.kept hg (fun k hkk e2 => h.apart i j x z k hx hz e e2 hkk))⟩
  · obtain ⟨y2, hy2, he, _⟩ := part j y hy
    obtain ⟨z2, hz2, hf, _⟩ := part k z hz
    rw [he] at hq
    rw [hf]
    exact h.apart j k y2 z2 q hy2 hz2 hjk hq

def SpB (base : Nat) (w : World) (e : Ending) (w' : World) : Prop := e = .returned (.tuple #[]) ∧ Below base w w'

set_option maxRecDepth 100000 in
set_option maxHeartbeats 2000000 in
theorem spoilSteps_any (base : Nat) (p : Option Addr) (vs : List Sv) (n cap : Nat) (w : World) (h : SpS w base (.slice p n cap) n vs) (hb : base ≤ w.heap.size) (hl : n ≤ 100000) (hk : ∀ x ∈ vs, x.kn ≤ 140737488355328) : Calls Try.prog 12 #[.slice p n cap] w (SpB base w) := by
  have H := Lib.hid h; have HK := Lib.hid hk; have HB := Lib.hid hb
  clear h hk hb
  go_enter Try.func12, Try.ntmps12
  go_wp2_with fail
  go_loopw [2] (fun v wr => ∃ (j : Nat) (us : List Sv), j ≤ n ∧ v = .int .i64 j ∧ Hid (SpS wr base (.slice p n cap) n us) ∧ Hid (∀ x ∈ us, x.kn ≤ 140737488355328) ∧ Hid (Below base w wr)) (fun v _ => n - (intOf v).toNat)
  case atStart => exact ⟨0, vs, by omega, rfl, H, HK, Lib.hid (Below.refl _ _)⟩
  case round =>
    clear H HK
    obtain ⟨j, us, hj, rfl, S, K, B⟩ := hrel
    by_cases hlt : j < n
    · obtain ⟨x, hx⟩ : ∃ x, us[j]? = some x := ⟨_, List.getElem?_eq_getElem (by rw [S.out.len]; exact hlt)⟩
      obtain ⟨g, c2, e, hg1, hg2, -⟩ := S.out.row.formS (by intro e; rw [e] at hx; simp at hx)
      rw [S.out.len] at e
      cases e
      obtain ⟨l, hkl⟩ := S.out.kids j x hx
      obtain ⟨kp, kc, e⟩ := hkl.form
      have hll : x.kn = l.length := (Value.slice.inj e).2.1
      have at1 := S.out.row.at hx
      have c5 : wr.cell? ⟨g, j * 6 + 5, none⟩ = some (.slice x.kp x.kn x.kc) := at1 5 _ rfl
      have c1 : wr.cell? ⟨g, j * 6 + 1, none⟩ = some (.int .i64 x.id) := at1 1 _ rfl
      have kx := K.out x (List.mem_of_getElem? hx)
      have CALL := Lib.hid (spoilInts_any base x.kp l x.kn x.kc hll.symm wr hkl kx)
      have hj0 : (0 : Int) ≤ (j : Int) := by omega
      have hj1 : (j : Int) < (n : Int) := by omega
      have HX := Lib.hid hx
      have BK : Hid (∀ g, x.kv.ownBlock = some g → base ≤ g) := Lib.hid (fun g hg => (hkl.lt hg).1)
      have GB : Hid (base ≤ g) := Lib.hid hg1
      have FR : Hid (∀ W : World, wr.grownBy W x.kv.ownBlock → W.cell? ⟨g, j * 6 + 1, none⟩ = some (.int .i64 x.id) ∧ W.frozen? ⟨g, j * 6 + 1, none⟩ = false) := Lib.hid (fun W hW => by
        have hr : lyS.Own W base (.slice (some ⟨g, 0, none⟩) n cap) us := S.out.row.kept hW (fun k hkk e => by
          obtain ⟨c1, h1⟩ := S.out.row.obj hkk
          obtain ⟨c2, h2⟩ := hkl.obj e
          exact type_ne h1 h2 (by decide) rfl)
        exact ⟨hr.at HX.out 1 _ rfl, hr.frozen _⟩)
      clear at1 hx hkl e hll hg1 hg2
      go_wp2_with (go_at_call 27; refine CALL.out.mono ?_; rintro e w5 ⟨rfl, ys, hy1, hy2, hy3⟩; obtain ⟨d1, df⟩ := FR.out w5 hy3; have Y1 := Lib.hid hy1; have Y3 := Lib.hid hy3; clear hy1 hy2 hy3)
      go_roundw
      case rel =>
        refine ⟨j + 1, _, by omega, by go_num, Lib.hid (S.out.spoil HX.out Y1.out Y3.out _), Lib.hid ?_, Lib.hid ?_⟩
        · intro z hz
          rcases List.mem_or_eq_of_mem_set hz with hz | hz
          · exact K.out z hz
          · rw [hz]; exact kx
        · have b5 := B.out.trans (below_grownN Y3.out BK.out (Nat.le_trans HB.out B.out.size))
          exact below_set b5 GB.out _
      case measure => simp [intOf]; omega
    · go_wp2_with fail
      (try simp only [Exit.inBlock, Exit.then])
      refine bodyPost_ret (results_none rfl _ _ _) rfl ?_
      exact ⟨rfl, B.out⟩

end Go.Proofs.Ytmeigoeknjoodaa
