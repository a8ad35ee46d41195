/-
  The walk of the program's May. Conditions: as each theorem's premises say.
-/
import Derived.Test.YtjmfjlffcopnnaaGreatDoorPM08
import Derived.Laws.AppendOwnNone
namespace Go.Proofs.YtjmfjlffcopnnaaGreatDoor
open Go.RowKit

/-- The nodes that are found, last first, their children taken out of those that are left. -/
def mayW : Nat → List Nd → List Nd → Bool
  | 0, F, L => F.isEmpty && L.isEmpty
  | f + 1, F, L => match F.getLast? with
    | none => L.isEmpty
    | some x => match kidsN x L with
      | none => false
      | some (ks, L') => mayW f (F.dropLast ++ ks) L'
theorem mayW_nil (f : Nat) (L : List Nd) : mayW f [] L = L.isEmpty := by cases f <;> rfl
theorem mayW_none {f : Nat} {F L : List Nd} {x : Nd} (h : kidsN x L = none) : mayW (f + 1) (F ++ [x]) L = false := by
  simp [mayW, h]
theorem mayW_some {f : Nat} {F L ks L' : List Nd} {x : Nd} (h : kidsN x L = some (ks, L')) : mayW (f + 1) (F ++ [x]) L = mayW f (F ++ ks) L' := by
  simp [mayW, h]
/-- What the program's May answers. -/
def mayP (ns : List Nd) (root next size : Int) : Bool := decide (0 ≤ size) && decide (size ≤ 4096) && numB ns next && (match fdI root ns 0 with
  | none => false
  | some i => match ns[i]? with
    | none => false
    | some y => (y.kd == 0 && y.fr == 0 && Nd.to y == size) && mayW (ns.length + 1) [y] (ns.eraseIdx i))

theorem own_cut {w : World} {base g cap n m : Nat} {α : Type} {L : Ly α} {xs ys : List α} (h : L.Own w base (.slice (some ⟨g, 0, none⟩) n cap) (xs ++ ys)) (hm : xs.length = m) : L.Own w base (.slice (some ⟨g, 0, none⟩) m cap) xs := by
  unfold Ly.Own at h ⊢
  subst hm
  obtain ⟨h1, h2 | ⟨g', cap', cur, h3, h4, h5, h6, h7, h8, h9⟩⟩ := h
  · cases h2.1
  · injection h3 with a b c
    injection a with a
    injection a with a
    subst a; subst c
    refine ⟨all_len .., .inr ⟨g, cap, cur, rfl, h4, h5, ?_, h7, h8, ?_⟩⟩
    · simp at h6; omega
    · have := congrArg (List.take (xs.length * L.sz)) h9
      rw [List.take_take, Nat.min_eq_left (Nat.mul_le_mul_right _ (by simp))] at this
      rw [this, all_app, List.take_append_of_le_length (Nat.le_of_eq (all_len ..).symm), List.take_of_length_le (Nat.le_of_eq (all_len ..))]
theorem row_map {w W : World} {mb : Nat} {l : List (Int × Value)} {α : Type} {L : Ly α} {p : Option Addr} {xs : List α} (hm : MapN w mb l) (hg : w.grownBy W (some mb)) (h : L.Row w p xs) : L.Row W p xs := fun i x hi => by
  obtain ⟨b, o, h1, h2⟩ := h i x hi
  exact ⟨b, o, h1, fun j u hu => cell_map hm hg (h2 j u hu)⟩
/-- How many entries a map has, and how many elements a slice. -/
def mapLen (w : World) (b : Nat) : Nat := match w.heap[b]? with
  | some (.map es _) => es.size
  | _ => 0
def slLen : Value → Nat
  | .slice _ n _ => n
  | _ => 0
theorem MapN.long {w : World} {b : Nat} {l : List (Int × Value)} (h : MapN w b l) : mapLen w b = l.length := by
  obtain ⟨es, clock, h1, h2⟩ := h
  have := congrArg List.length h2
  simp at this
  unfold mapLen
  rw [h1]; exact this

theorem nil_or_snoc {α : Type} (F : List α) : F = [] ∨ ∃ F' x, F = F' ++ [x] := by
  rcases List.eq_nil_or_concat F with h | ⟨F', x, h⟩
  · exact .inl h
  · exact .inr ⟨F', x, by rw [h, List.concat_eq_append]⟩
/-- Nodes' cells fit nodes, their children's rows lying where they lay. -/
def FitK (w0 : World) (vs : List Nv) (ks : List Nd) : Prop := ∀ (i : Nat) n, ks[i]? = some n → ∃ kp kc, vs[i]? = some ⟨n.id, n.kd, n.fr, Nd.to n, kp, n.kids.length, kc⟩ ∧ lyI.Row w0 kp n.kids
theorem FitK.app {w0 : World} {vs vs2 : List Nv} {F ks : List Nd} (hl : vs.length = F.length) (h : FitK w0 vs F) (h2 : FitK w0 vs2 ks) : FitK w0 (vs ++ vs2) (F ++ ks) := fun i n hi => by
  by_cases hlt : i < F.length
  · rw [List.getElem?_append_left hlt] at hi
    rw [List.getElem?_append_left (by omega)]
    exact h i n hi
  · rw [List.getElem?_append_right (by omega)] at hi
    rw [List.getElem?_append_right (by omega), hl]
    exact h2 _ n hi
theorem FitK.cut {w0 : World} {vs : List Nv} {F : List Nd} {x : Nd} (hl : vs.length = F.length + 1) (h : FitK w0 vs (F ++ [x])) : ∃ vs' kp kc, vs = vs' ++ [⟨x.id, x.kd, x.fr, Nd.to x, kp, x.kids.length, kc⟩] ∧ vs'.length = F.length ∧ FitK w0 vs' F ∧ lyI.Row w0 kp x.kids := by
  obtain ⟨kp, kc, h1, h2⟩ := h F.length x (by simp)
  obtain ⟨h3, h4⟩ := split_at h1
  have h5 : vs.drop (F.length + 1) = [] := List.drop_eq_nil_of_le (by omega)
  rw [h5] at h3
  have hlen : (vs.take F.length).length = F.length := by rw [List.length_take, Nat.min_eq_left (by omega)]
  refine ⟨vs.take F.length, kp, kc, h3, hlen, fun i n hi => ?_, h2⟩
  have hi2 := (List.getElem?_eq_some_iff.1 hi).1
  obtain ⟨a, b, c, d⟩ := h i n (by rw [List.getElem?_append_left hi2]; exact hi)
  exact ⟨a, b, by rw [List.getElem?_take_of_lt hi2]; exact c, d⟩
section
variable {n : Nd} {L : List Nd} {mb : Nat} {w0 w w' : World} {e : Ending}
theorem TkPost.no (h : TkPost n L mb w0 w e w') (hk : kidsN n L = none) : e = .returned (.tuple #[.slice none 0 0, .bool false]) ∧ w.grownBy w' (some mb) := by
  obtain ⟨hg, ⟨-, he⟩ | ⟨ks, L', l', p, cap, h1, -⟩⟩ := h
  · exact ⟨he, hg⟩
  · rw [hk] at h1; cases h1
theorem TkPost.bare {L' : List Nd} (h : TkPost n L mb w0 w e w') (hk : kidsN n L = some ([], L')) : e = .returned (.tuple #[.slice none 0 0, .bool true]) ∧ w.grownBy w' (some mb) ∧ ∃ l', MapN w' mb l' ∧ EntN w0 l' L' ∧ L'.length ≤ L.length := by
  obtain ⟨hg, ⟨h1, -⟩ | ⟨ks, L2, l', p, cap, h1, h2, h3, h4, h5, h6, h7⟩⟩ := h
  · rw [hk] at h1; cases h1
  · rw [hk] at h1
    injection h1 with h1
    injection h1 with a b
    subst a; subst b
    obtain ⟨rfl, rfl⟩ := h7 rfl
    exact ⟨h2, hg, l', h3, h4, by simpa using h6⟩
theorem TkPost.yes {L' ks : List Nd} (h : TkPost n L mb w0 w e w') (hk : kidsN n L = some (ks, L')) (h0 : ks ≠ []) : ∃ g cap vs l', e = .returned (.tuple #[.slice (some ⟨g, 0, none⟩) ks.length cap, .bool true]) ∧ w.grownBy w' (some mb) ∧ MapN w' mb l' ∧ EntN w0 l' L' ∧ ks.length + L'.length ≤ L.length ∧ lyN.Own w' w.heap.size (.slice (some ⟨g, 0, none⟩) ks.length cap) vs ∧ vs.length = ks.length ∧ FitK w0 vs ks := by
  obtain ⟨hg, ⟨h1, -⟩ | ⟨ks', L2, l', p, cap, h1, h2, h3, h4, ⟨vs, h5, h6, h7⟩, h8, h9⟩⟩ := h
  · rw [hk] at h1; cases h1
  · rw [hk] at h1
    injection h1 with h1
    injection h1 with a b
    subst a; subst b
    obtain ⟨g, cap', hv, -⟩ := h5.formS (fun e0 => h0 (List.eq_nil_of_length_eq_zero (by rw [← h6, e0]; rfl)))
    injection hv with a b c
    subst a; subst c
    exact ⟨g, cap, vs, l', h2, hg, h3, h4, h8, h5, h6, h7⟩
end

set_option maxRecDepth 100000 in
set_option maxHeartbeats 1000000 in
theorem may_size (root next size : Int) (p : Option Addr) (N cap : Nat) (w : World) (hs : size < 0 ∨ 4096 < size) : Calls Tryz.prog 42 #[trV root next p N cap, .int .i64 size] w (RetBelow (.returned (.bool false)) w) := by
  unfold trV
  rcases hs with hs | hs
  · go_enter Tryz.func42, Tryz.ntmps42
    go_wp2_with fail
    go_ret
    exact ⟨rfl, by first | exact (Below.refl _ _).alloc (Nat.le_refl _) _ | skip⟩
  · have hs2 : ¬ size < 0 := by omega
    go_enter Tryz.func42, Tryz.ntmps42
    go_wp2_with fail
    go_ret
    exact ⟨rfl, by first | exact (Below.refl _ _).alloc (Nat.le_refl _) _ | skip⟩

set_option maxRecDepth 100000 in
set_option maxHeartbeats 1000000 in
theorem may_num (root next size : Int) (p : Option Addr) (ns : List Nd) (N cap : Nat) (hN : ns.length = N) (w : World) (h : NodesR w p ns) (hl : N ≤ 140737488355328) (hs : 0 ≤ size) (hs2 : size ≤ 4096) (hn : numB ns next = false) : Calls Tryz.prog 42 #[trV root next p N cap, .int .i64 size] w (RetBelow (.returned (.bool false)) w) := by
  have NUM : Hid (∀ W, Below w.heap.size w W → Calls Tryz.prog 93 #[trV root next p N cap] W (RetBelow (.returned (.bool (numB ns next))) W)) := Lib.hid (fun W hb => numbered_any root next p ns N cap hN W (h.below hb) hl)
  rw [hn] at NUM
  clear hn h hN
  unfold trV at *
  have hs3 : ¬ size < 0 := by omega
  have hs4 : ¬ 4096 < size := by omega
  go_enter Tryz.func42, Tryz.ntmps42
  go_wp2_with (go_at_call 93; refine (NUM.out _ ((Below.refl _ _).alloc (Nat.le_refl _) _)).mono ?_; rintro e w1 ⟨rfl, hb1⟩; have B1 := Lib.hid hb1; clear hb1)
  go_ret
  exact ⟨rfl, ((Below.refl _ _).alloc (Nat.le_refl _) _).trans (B1.out.mono (by simp))⟩

/-- What the loop of May holds. -/
structure MI (w2 wr : World) (mb : Nat) (v : Value) (F L : List Nd) (l : List (Int × Value)) : Prop where
  map : MapN wr mb l
  ent : EntN w2 l L
  row : RowK w2 wr w2.heap.size v F
  grown : w2.grownBy wr (some mb)
  few : F.length + L.length ≤ 2048
  smF : ∀ x ∈ F, x.kids.length ≤ 140737488355328
  smL : ∀ x ∈ L, x.kids.length ≤ 140737488355328

set_option maxRecDepth 100000 in
set_option maxHeartbeats 2000000 in
theorem may_go (root next size : Int) (p : Option Addr) (ns : List Nd) (N cap : Nat) (hN : ns.length = N) (w : World) (h : NodesR w p ns) (hl : N ≤ 140737488355328) (hs : 0 ≤ size) (hs2 : size ≤ 4096) (hn : numB ns next = true) (hri : risesB ns = true) (hsm : ∀ x ∈ ns, x.kids.length ≤ 140737488355328) : Calls Tryz.prog 42 #[trV root next p N cap, .int .i64 size] w (RetBelow (.returned (.bool (mayP ns root next size))) w) := by
  obtain ⟨i0, hi, hz0, hz1, hz2⟩ := info_parts info63
  have NUM : Hid (∀ W, Below w.heap.size w W → Calls Tryz.prog 93 #[trV root next p N cap] W (RetBelow (.returned (.bool (numB ns next))) W)) := Lib.hid (fun W hb => numbered_any root next p ns N cap hN W (h.below hb) hl)
  have hN2 : N ≤ 2048 := by
    have := hn
    unfold numB at this
    simp only [Bool.and_eq_true, decide_eq_true_eq] at this
    omega
  have BYID : Hid (∀ W, Below w.heap.size w W → Calls Tryz.prog 94 #[.slice p N cap] W (ByPost ns W)) := Lib.hid (fun W hb => byId_any p ns N cap hN (by omega) hri W (h.below hb))
  rw [hn] at NUM
  have MP : Hid (mayP ns root next size = (match fdI root ns 0 with
  | none => false
  | some i => match ns[i]? with
    | none => false
    | some y => (y.kd == 0 && y.fr == 0 && Nd.to y == size) && mayW (ns.length + 1) [y] (ns.eraseIdx i))) := Lib.hid (by
    unfold mayP
    rw [decide_eq_true hs, decide_eq_true hs2, hn]; rfl)
  have SM := Lib.hid hsm; have HN := Lib.hid hN
  clear hn h hN hri hsm
  unfold trV at *
  have hs3 : ¬ size < 0 := by omega
  have hs4 : ¬ 4096 < size := by omega
  go_enter Tryz.func42, Tryz.ntmps42
  go_upto_region 4 with (first | (go_at_call 93; refine (NUM.out _ ((Below.refl _ _).alloc (Nat.le_refl _) _)).mono ?_; rintro e w1 ⟨rfl, hb1⟩; have B1 := Lib.hid hb1; have T0 := Lib.hid ((hb1.block w.heap.size (by simp)).trans (heap_alloc_new w _)); clear hb1; have t2 := (obj_cells T0.out).1 2 _ rfl) | (go_at_call 94; refine (BYID.out _ (((Below.refl w.heap.size w).alloc (Nat.le_refl _) _).trans (B1.out.mono (by simp)))).mono ?_; rintro e w2 ⟨mb, l, rfl, hmap, hent, hmb, hb2⟩))
  have MP0 := Lib.hid hmap; have EN0 := Lib.hid hent
  have BW := Lib.hid (((Below.refl w.heap.size w).alloc (Nat.le_refl _) (.cells #[.int .i64 root, .int .i64 next, .slice p N cap] 26)).trans ((B1.out.mono (by simp)).trans (hb2.mono (Nat.le_trans (by simp) B1.out.size))))
  have T2 := Lib.hid ((hb2.block w.heap.size (obj_cells T0.out).2.2).trans T0.out)
  have MB := Lib.hid (show w.heap.size ≤ mb from Nat.le_trans (Nat.le_of_lt (obj_cells T0.out).2.2) hmb)
  have t0 : w2.cell? ⟨w.heap.size, 0, none⟩ = some (.int .i64 root) := (obj_cells T2.out).1 0 _ rfl
  clear NUM BYID hmap hent hmb hb2 T0 t2 B1
  rcases ent_atK (c := root) (k := 0) EN0.out.ent EN0.out.len with ⟨h1, h2⟩ | ⟨i, y, kp', kc', -, h1, h2, h3, h4, h5⟩
  · have LK := lookup_none MP0.out h2
    unfold noN5 at LK
    have NO : Hid (mayP ns root next size = false) := Lib.hid (by rw [MP.out, h1])
    clear h1 h2
    go_wp2_with fail
    go_ret
    exact ⟨by rw [NO.out]; rfl, BW.out.trans ((Below.refl _ _).alloc BW.out.size _)⟩
  · have LK := lookup_some MP0.out h3
    rw [Nat.sub_zero] at h2 h5
    unfold ndV at LK
    have MY : Hid (mayP ns root next size = ((y.kd == 0 && y.fr == 0 && Nd.to y == size) && mayW (ns.length + 1) [y] (ns.eraseIdx i))) := Lib.hid (by rw [MP.out, h1]; simp only [h2])
    obtain ⟨kd, hkd⟩ : ∃ kd, y.kd = kd := ⟨_, rfl⟩
    obtain ⟨fr, hfr⟩ : ∃ fr, y.fr = fr := ⟨_, rfl⟩
    obtain ⟨tt, htt⟩ : ∃ tt, Nd.to y = tt := ⟨_, rfl⟩
    rw [hkd, hfr, htt] at LK MY
    have HK := Lib.hid hkd; have HF := Lib.hid hfr; have HT := Lib.hid htt
    have H2 := Lib.hid h2; have H3 := Lib.hid h3; have H4 := Lib.hid h4
    clear h1 h2 h3 h4 hkd hfr htt MP
    by_cases e1 : kd = 0
    · subst e1
      by_cases e2 : fr = 0
      · subst e2
        by_cases e3 : tt = size
        · subst e3
          have MG : Hid (mayP ns root next tt = mayW (ns.length + 1) [y] (ns.eraseIdx i)) := Lib.hid (by rw [MY.out]; simp)
          clear MY
          have BA := Lib.hid (show Below w2.heap.size w2 (w2.alloc (.cells #[.int .i64 y.id, .int .i64 0, .int .i64 0, .int .i64 tt, .slice kp' y.kids.length kc'] 109)) from (Below.refl _ _).alloc (Nat.le_refl _) _)
          have t0' : (w2.alloc (.cells #[.int .i64 y.id, .int .i64 0, .int .i64 0, .int .i64 tt, .slice kp' y.kids.length kc'] 109)).cell? ⟨w.heap.size, 0, none⟩ = some (.int .i64 root) := cell_later BA.out t0
          obtain ⟨ob, hD, hM⟩ := delete_some (MP0.out.below BA.out) H3.out
          have HM := Lib.hid hM; clear hM
          have HD := hD 0; clear hD
          have G5 := Lib.hid (setB_grown (w2.alloc (.cells #[.int .i64 y.id, .int .i64 0, .int .i64 0, .int .i64 tt, .slice kp' y.kids.length kc'] 109)) mb ob)
          have KB := Lib.hid (obj_map (MP0.out.below BA.out) G5.out (heap_alloc_new w2 (.cells #[.int .i64 y.id, .int .i64 0, .int .i64 0, .int .i64 tt, .slice kp' y.kids.length kc'] 109)))
          have G5' := Lib.hid (grown_trans (grown_of_below BA.out (some mb)) G5.out (fun g h => .inl h))
          generalize hw5 : setB (w2.alloc (.cells #[.int .i64 y.id, .int .i64 0, .int .i64 0, .int .i64 tt, .slice kp' y.kids.length kc'] 109)) mb ob = w5 at HD HM G5 KB G5'
          clear hw5
          have S5 : w2.heap.size < w5.heap.size := (obj_cells KB.out).2.2
          have k0 : w5.cell? ⟨w2.heap.size, 0, none⟩ = some (.int .i64 y.id) := (obj_cells KB.out).1 0 _ rfl
          have k1 : w5.cell? ⟨w2.heap.size, 1, none⟩ = some (.int .i64 0) := (obj_cells KB.out).1 1 _ rfl
          have k2 : w5.cell? ⟨w2.heap.size, 2, none⟩ = some (.int .i64 0) := (obj_cells KB.out).1 2 _ rfl
          have k3 : w5.cell? ⟨w2.heap.size, 3, none⟩ = some (.int .i64 tt) := (obj_cells KB.out).1 3 _ rfl
          have k4 : w5.cell? ⟨w2.heap.size, 4, none⟩ = some (.slice kp' y.kids.length kc') := (obj_cells KB.out).1 4 _ rfl
          go_wp2_with fail
          have START : Hid (MI w2 (w5.alloc (.cells #[.int .i64 y.id, .int .i64 0, .int .i64 0, .int .i64 tt, .slice kp' y.kids.length kc'] 109)) mb (.slice (some ⟨w5.heap.size, 0, none⟩) 1 1) [y] (ns.eraseIdx i) (l.eraseIdx i)) := Lib.hid (by
            have B5 : Below w5.heap.size w5 (w5.alloc (.cells #[.int .i64 y.id, .int .i64 0, .int .i64 0, .int .i64 tt, .slice kp' y.kids.length kc'] 109)) := (Below.refl _ _).alloc (Nat.le_refl _) _
            refine ⟨HM.out.below B5, EN0.out.erase i h5, ⟨[⟨y.id, y.kd, y.fr, Nd.to y, kp', y.kids.length, kc'⟩], ?_, rfl, ?_⟩, grown_trans G5'.out (grown_of_below B5 none) (fun g h => by cases h), ?_, ?_, ?_⟩
            · rw [HK.out, HF.out, HT.out]
              exact ⟨rfl, .inr ⟨w5.heap.size, 1, _, rfl, Nat.le_of_lt S5, heap_alloc_new w5 (.cells #[.int .i64 y.id, .int .i64 0, .int .i64 0, .int .i64 tt, .slice kp' y.kids.length kc'] 109), Nat.le_refl _, by decide, rfl, rfl⟩⟩
            · intro i' m hi'
              cases i' with
              | zero =>
                simp only [List.getElem?_cons_zero, Option.some.injEq] at hi'
                subst hi'
                exact ⟨kp', kc', rfl, H4.out⟩
              | succ => simp at hi'
            · have := List.length_eraseIdx_of_lt h5
              rw [List.length_singleton]; rw [HN.out] at this h5; omega
            · intro x hx
              rw [List.mem_singleton.1 hx]
              exact SM.out y (List.mem_of_getElem? H2.out)
            · exact fun x hx => SM.out x (List.mem_of_mem_eraseIdx hx))
          have FU : (1 : Nat) + (ns.eraseIdx i).length ≤ ns.length + 1 := by
            have := List.length_eraseIdx_of_lt h5
            omega
          generalize w5.alloc (.cells #[.int .i64 y.id, .int .i64 0, .int .i64 0, .int .i64 tt, .slice kp' y.kids.length kc'] 109) = w6 at START ⊢
          generalize Value.slice (some ⟨w5.heap.size, 0, none⟩) 1 1 = v0 at START ⊢
          clear k0 k1 k2 k3 k4 S5 HD HM G5 KB G5' LK BA t0' H2 H3 H4 HK HF HT h5 t0 T2
          go_loopw [8] (fun v wr => ∃ (f : Nat) (F L' : List Nd) (l' : List (Int × Value)), F.length + L'.length ≤ f ∧ Hid (mayW f F L' = mayP ns root next tt) ∧ Hid (MI w2 wr mb v F L' l')) (fun v wr => slLen v + mapLen wr mb)
          case atStart => exact ⟨ns.length + 1, [y], _, _, FU, Lib.hid MG.out.symm, START⟩
          case round =>
            clear START MG FU
            obtain ⟨f, F, L', l', hf, AN, T⟩ := hrel
            obtain ⟨vs, hvs, hvl, hve⟩ := T.out.row
            have ML := Lib.hid T.out.map.long
            rcases nil_or_snoc F with rfl | ⟨F', x, rfl⟩
            · obtain ⟨p9, cap9, hform⟩ := hvs.form
              rw [hvl] at hform
              subst hform
              clear hvs hvl hve ML
              have LEN := len_is T.out.map
              have EL : Hid (mayP ns root next tt = ((l'.length : Int) == 0)) := Lib.hid (by
                rw [← AN.out, mayW_nil, T.out.ent.len]
                cases L' with
                | nil => rfl
                | cons a b => simp; omega)
              have BR := Lib.hid (BW.out.trans (below_grown T.out.grown MB.out BW.out.size))
              go_wp2_with fail
              go_ret
              exact ⟨by rw [EL.out]; rfl, BR.out⟩
            · obtain ⟨vs', kp9, kc9, rfl, hvl', hfit, hrow9⟩ := FitK.cut (w0 := w2) (F := F') (x := x) (by rw [hvl]; simp) hve
              obtain ⟨g, cap9, hform, hg1, hg2, hcap⟩ := hvs.formS (by simp)
              rw [hvl, List.length_append, List.length_singleton] at hform
              rw [hvl, List.length_append, List.length_singleton] at hcap
              subst hform
              have AT := hvs.at (i := F'.length) (x := ⟨x.id, x.kd, x.fr, Nd.to x, kp9, x.kids.length, kc9⟩) (by rw [← hvl']; simp)
              have OC := Lib.hid (own_cut hvs hvl')
              have fewF : F'.length + 1 + L'.length ≤ 2048 := by have := T.out.few; simpa using this
              rw [List.length_append, List.length_singleton] at hf
              obtain ⟨f', rfl⟩ : ∃ f', f = f' + 1 := ⟨f - 1, by omega⟩
              have hf' : F'.length + L'.length ≤ f' := by omega
              have smx : x.kids.length ≤ 140737488355328 := T.out.smF x (by simp)
              have SMF : Hid (∀ z ∈ F', z.kids.length ≤ 140737488355328) := Lib.hid (fun z hz => T.out.smF z (by simp [hz]))
              have TAKE := Lib.hid (take_all x kp9 kc9 mb L' l' w2 wr T.out.map T.out.ent (row_map MP0.out T.out.grown hrow9) smx (by omega))
              have AN' : Hid (mayW (f' + 1) (F' ++ [x]) L' = mayP ns root next tt) := Lib.hid AN.out
              have FIT := Lib.hid hfit; have VL := Lib.hid hvl'
              have a0 : wr.cell? ⟨g, F'.length * 5, none⟩ = some (.int .i64 x.id) := AT 0 _ rfl
              have a1 : wr.cell? ⟨g, F'.length * 5 + 1, none⟩ = some (.int .i64 x.kd) := AT 1 _ rfl
              have a2 : wr.cell? ⟨g, F'.length * 5 + 2, none⟩ = some (.int .i64 x.fr) := AT 2 _ rfl
              have a3 : wr.cell? ⟨g, F'.length * 5 + 3, none⟩ = some (.int .i64 (Nd.to x)) := AT 3 _ rfl
              have a4 : wr.cell? ⟨g, F'.length * 5 + 4, none⟩ = some (.slice kp9 x.kids.length kc9) := AT 4 _ rfl
              clear hvs hvl hve hrow9 hfit hvl' AT AN
              unfold ndV at TAKE
              have hM1 : (0 : Int) ≤ (F'.length : Int) := by omega
              have hM2 : (F'.length : Int) < (F'.length : Int) + 1 := by omega
              have hM3 : (F'.length : Int) ≤ (cap9 : Int) := by omega
              have BR := Lib.hid (BW.out.trans (below_grown T.out.grown MB.out BW.out.size))
              cases hk : kidsN x L' with
              | none =>
                have NO : Hid (mayP ns root next tt = false) := Lib.hid (by rw [← AN'.out, mayW_none hk])
                have HK := Lib.hid hk
                clear hk
                go_wp2_with (go_at_call 95; refine TAKE.out.mono ?_; intro e w7 hp; obtain ⟨rfl, hg7⟩ := hp.no HK.out; have G7 := Lib.hid hg7; clear hp hg7)
                go_ret
                exact ⟨by rw [NO.out]; rfl, BR.out.trans (below_grown G7.out MB.out BR.out.size)⟩
              | some r =>
                obtain ⟨ks, L2⟩ := r
                have ANS : Hid (mayW f' (F' ++ ks) L2 = mayP ns root next tt) := Lib.hid (by rw [← AN'.out, mayW_some hk])
                have HK := Lib.hid hk
                have MEM := Lib.hid (kidsN_mem hk)
                have O7 : Hid (∀ W, wr.grownBy W (some mb) → lyN.Own W w2.heap.size (.slice (some ⟨g, 0, none⟩) F'.length cap9) vs') := Lib.hid (fun W hW => own_map T.out.map hW OC.out)
                clear hk
                by_cases h0 : ks = []
                · subst h0
                  go_wp2_with (first | (go_at_call 95; refine TAKE.out.mono ?_; intro e w7 hp; obtain ⟨rfl, hg7, l2, hm7, he7, hl7⟩ := hp.bare HK.out; have G7 := Lib.hid hg7; have M7 := Lib.hid hm7; have E7 := Lib.hid he7; have OW7 : Hid (w7.ownsRow w2.heap.size 109 5 (.slice (some ⟨g, 0, none⟩) F'.length cap9) F'.length (lyN.all vs')) := Lib.hid (by have := O7.out w7 hg7; unfold Ly.Own at this; rw [VL.out] at this; exact this); clear hp hg7 hm7 he7) | (at_builtin; refine wpList_append_own_none rfl _ _ 24 rfl w2.heap.size 109 i0 5 Tryz.underlying24 hi (.slice (some ⟨g, 0, none⟩) F'.length cap9) F'.length (lyN.all vs') rfl OW7.out rfl ?_))
                  refine ⟨⟨f', F', L2, l2, by omega, Lib.hid (by have := ANS.out; rwa [List.append_nil] at this), Lib.hid ⟨M7.out, E7.out, ⟨vs', O7.out _ G7.out, VL.out, FIT.out⟩, grown_trans T.out.grown G7.out (fun g h => .inl h), by omega, SMF.out, fun z hz => T.out.smL z (MEM.out.2 z hz)⟩⟩, ?_⟩
                  rw [M7.out.long, ML.out, E7.out.len, T.out.ent.len]
                  simp only [slLen]
                  omega
                · have H0 := Lib.hid h0
                  clear h0
                  go_wp2_with (first | (go_at_call 95; refine TAKE.out.mono ?_; intro e w7 hp; obtain ⟨g7, cap7, vs7, l2, rfl, hg7, hm7, he7, hl7, hr7, hv7, hf7⟩ := hp.yes HK.out H0.out; have G7 := Lib.hid hg7; have M7 := Lib.hid hm7; have E7 := Lib.hid he7; have R7 := Lib.hid hr7; have V7 := Lib.hid hv7; have F7 := Lib.hid hf7; have OW7 : Hid (w7.ownsRow w2.heap.size 109 5 (.slice (some ⟨g, 0, none⟩) F'.length cap9) F'.length (lyN.all vs')) := Lib.hid (by have := O7.out w7 hg7; unfold Ly.Own at this; rw [VL.out] at this; exact this); have SZ : w2.heap.size ≤ w7.heap.size := Nat.le_trans T.out.grown.size hg7.size; have KP : 0 < ks.length := List.length_pos_iff.2 H0.out; clear hp hg7 hm7 he7 hr7 hv7 hf7) | (at_builtin; refine wpList_append_lies _ rfl _ _ 24 rfl w2.heap.size 109 i0 _ 5 56 Tryz.underlying24 hi hz0 hz1 hz2 rfl (by decide) (.slice (some ⟨g, 0, none⟩) F'.length cap9) F'.length (lyN.all vs') rfl OW7.out ⟨g7, 0, none⟩ ks.length cap7 (lyN.all vs7) rfl (by rw [← V7.out]; exact all_len ..) (World.ownsRow.cells R7.out rfl) (fun u hu => all_ones _ u hu) KP (by unfold maxLen; omega) (by omega) SZ w7.heap.size rfl ?_; intro g8 cap8 w8 hown hgrow hgg hlt2; have HO := Lib.hid hown; have HG := Lib.hid hgrow; clear hown hgrow hgg))
                  have MNE : (Value.slice (some ⟨g, 0, none⟩) F'.length cap9).ownBlock ≠ some mb := fun e => by
                    have h1 : g = mb := Option.some.inj e
                    obtain ⟨es, clock, h2⟩ := MP0.out.obj
                    have h3 := (Array.getElem?_eq_some_iff.1 h2).1
                    omega
                  have M8 := M7.out.keptR HG.out MNE
                  refine ⟨⟨f', F' ++ ks, L2, l2, by rw [List.length_append]; omega, ANS, Lib.hid ⟨M8, E7.out, ⟨vs' ++ vs7, ?_, by rw [List.length_append, List.length_append, VL.out, V7.out], FitK.app VL.out FIT.out F7.out⟩, ?_, by rw [List.length_append]; omega, ?_, fun z hz => T.out.smL z (MEM.out.2 z hz)⟩⟩, ?_⟩
                  · unfold Ly.Own
                    rw [List.length_append, VL.out, V7.out, all_app]
                    exact HO.out
                  · exact grown_trans (grown_trans T.out.grown G7.out (fun g h => .inl h)) HG.out (fun k h => .inr (Option.some.inj h ▸ hg1))
                  · intro z hz
                    rcases List.mem_append.1 hz with hz | hz
                    · exact SMF.out z hz
                    · exact T.out.smL z (MEM.out.1 z hz)
                  · rw [M8.long, ML.out, E7.out.len, T.out.ent.len]
                    simp only [slLen]
                    omega
        · have NO : Hid (mayP ns root next size = false) := Lib.hid (by rw [MY.out]; simp [e3])
          go_wp2_with fail
          go_ret
          exact ⟨by rw [NO.out]; rfl, BW.out.trans ((Below.refl _ _).alloc BW.out.size _)⟩
      · have NO : Hid (mayP ns root next size = false) := Lib.hid (by rw [MY.out]; simp [e2])
        go_wp2_with fail
        go_ret
        exact ⟨by rw [NO.out]; rfl, BW.out.trans ((Below.refl _ _).alloc BW.out.size _)⟩
    · have NO : Hid (mayP ns root next size = false) := Lib.hid (by rw [MY.out]; simp [e1])
      go_wp2_with fail
      go_ret
      exact ⟨by rw [NO.out]; rfl, BW.out.trans ((Below.refl _ _).alloc BW.out.size _)⟩

end Go.Proofs.YtjmfjlffcopnnaaGreatDoor
