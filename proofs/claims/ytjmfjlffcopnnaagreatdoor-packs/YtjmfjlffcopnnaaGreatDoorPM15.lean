/-
  Co1, CoR, CoS, in one text. Conditions: as each theorem's premises say.
-/
import Derived.Test.YtjmfjlffcopnnaaGreatDoorPM14
namespace Go.Proofs.YtjmfjlffcopnnaaGreatDoor
open Go.RowKit

/-- A node with its children's row put to the nodes. -/
theorem OwnT.pushK {W w' : World} {base : Nat} {nv nv' : Value} {vs : List Nv} {ns : List Nd} (h : OwnT W base nv vs ns) (hg : W.grownBy w' nv.ownBlock) (v : Nv) (n : Nd) (hv : Fits W base v n) (hap : ∀ (i : Nat) x g, vs[i]? = some x → x.kv.ownBlock = some g → v.kv.ownBlock ≠ some g) (ho : lyN.Own w' base nv' (vs ++ [v])) : OwnT w' base nv' (vs ++ [v]) (ns ++ [n]) := by
  have keep : ∀ (x : Nv) (m : Nd), Fits W base x m → Fits w' base x m := fun x m hf => by
    obtain ⟨a, b, c, d, e⟩ := hf
    exact ⟨a, b, c, d, e.kept hg (fun k hk e0 => by
      obtain ⟨c1, h1⟩ := h.row.obj e0
      obtain ⟨c2, h2⟩ := e.obj hk
      exact type_ne h1 h2 (by decide) rfl)⟩
  have part : ∀ (i : Nat) x, (vs ++ [v])[i]? = some x → vs[i]? = some x ∨ (i = vs.length ∧ x = v) := fun i x hx => by
    by_cases hi : i < vs.length
    · rw [List.getElem?_append_left hi] at hx; exact .inl hx
    · have hi2 : i = vs.length := by have := (List.getElem?_eq_some_iff.1 hx).1; simp at this; omega
      subst hi2
      rw [List.getElem?_append_right (Nat.le_refl _), Nat.sub_self] at hx
      exact .inr ⟨rfl, by simpa using hx.symm⟩
  have hl := h.len
  refine ⟨ho, by rw [List.length_append, List.length_append, hl]; rfl, fun i x m hx hm => ?_, fun i j x y g hx hy hij hk => ?_⟩
  · rcases part i x hx with hx | ⟨rfl, rfl⟩
    · have := (List.getElem?_eq_some_iff.1 hx).1
      rw [List.getElem?_append_left (by omega)] at hm
      exact keep x m (h.fit i x m hx hm)
    · rw [List.getElem?_append_right (by omega), hl, Nat.sub_self] at hm
      simp at hm
      subst hm
      exact keep _ _ hv
  · rcases part i x hx with hx2 | ⟨ei, ex⟩
    · rcases part j y hy with hy2 | ⟨ej, ey⟩
      · exact h.apart i j x y g hx2 hy2 hij hk
      · rw [ey]; exact hap i x g hx2 hk
    · rcases part j y hy with hy2 | ⟨ej, ey⟩
      · rw [ex] at hk
        exact fun e => hap j y g hy2 e hk
      · exact absurd (ei.trans ej.symm) hij
theorem ownT_none (w : World) (base : Nat) : OwnT w base (.slice none 0 0) [] [] := ⟨Ly.Own.nil _ _, rfl, fun i x m hx => by simp at hx, fun i j x y g hx => by simp at hx⟩
/-- What CopyTree holds: the tree's box, the answer's, the copy's, its nodes so far. -/
structure CS (w wr : World) (root next : Int) (p : Option Addr) (n cap : Nat) (ns : List Nd) (nv : Value) (vs : List Nv) : Prop where
  boxA : wr.heap[w.heap.size]? = some (.cells #[.int .i64 root, .int .i64 next, .slice p n cap] 26 (0, 0))
  boxR : wr.heap[w.heap.size + 1]? = some (.cells #[.int .i64 0, .int .i64 0, .slice none 0 0] 26 (0, 0))
  boxB : wr.heap[w.heap.size + 2]? = some (.cells #[.int .i64 root, .int .i64 next, nv] 26 (0, 0))
  own : OwnT wr w.heap.size nv vs ns
  below : Below w.heap.size w wr
theorem CS.later {w wr W : World} {root next : Int} {p : Option Addr} {n cap : Nat} {ns : List Nd} {nv : Value} {vs : List Nv} (h : CS w wr root next p n cap ns nv vs) (hb : Below wr.heap.size wr W) : CS w W root next p n cap ns nv vs :=
  ⟨(hb.block _ (Array.getElem?_eq_some_iff.1 h.boxA).1).trans h.boxA, (hb.block _ (Array.getElem?_eq_some_iff.1 h.boxR).1).trans h.boxR, (hb.block _ (Array.getElem?_eq_some_iff.1 h.boxB).1).trans h.boxB, h.own.below hb, h.below.trans (hb.mono h.below.size)⟩
/-- A box of another type stays, where the row of nodes is written. -/
theorem box_staysN {w w' : World} {base k : Nat} {v : Value} {vs : List Nv} {c : Array Value} {ty : TypeId} (ho : lyN.Own w base v vs) (hg : w.grownBy w' v.ownBlock) (h : w.heap[k]? = some (.cells c ty (0, 0))) (hty : ty ≠ 109) : w'.heap[k]? = some (.cells c ty (0, 0)) :=
  (hg.block k (Array.getElem?_eq_some_iff.1 h).1 (fun e => by
    obtain ⟨cur, hcur⟩ := ho.obj e.symm
    exact type_ne h hcur hty rfl)).trans h
theorem CS.push {w W w' : World} {root next : Int} {p : Option Addr} {n cap : Nat} {ns : List Nd} {nv nv' : Value} {vs : List Nv} (h : CS w W root next p n cap ns nv vs) (hg : W.grownBy w' nv.ownBlock) (v : Nv) (m : Nd) (hv : Fits W w.heap.size v m) (hap : ∀ (i : Nat) x g, vs[i]? = some x → x.kv.ownBlock = some g → v.kv.ownBlock ≠ some g) (ho : lyN.Own w' w.heap.size nv' (vs ++ [v])) : CS w (w'.setCell ⟨w.heap.size + 2, 2, none⟩ nv') root next p n cap (ns ++ [m]) nv' (vs ++ [v]) := by
  have a1 := box_staysN h.own.row hg h.boxA (by decide)
  have a2 := box_staysN h.own.row hg h.boxR (by decide)
  have a3 := box_staysN h.own.row hg h.boxB (by decide)
  have g2 := set_grown w' (w.heap.size + 2) 2 nv'
  have hb := h.below.trans (below_grownN hg (fun g hgg => (h.own.row.lt hgg).1) h.below.size)
  refine ⟨(g2.block _ (Array.getElem?_eq_some_iff.1 a1).1 (fun e => by have := Option.some.inj e; omega)).trans a1, (g2.block _ (Array.getElem?_eq_some_iff.1 a2).1 (fun e => by have := Option.some.inj e; omega)).trans a2, ?_, ?_, hb.trans (below_grown g2 (by omega) hb.size)⟩
  · rw [heap_setCell_at a3]; rfl
  · exact (h.own.pushK hg v m hv hap ho).kept g2 a3 (by decide) (by decide)
def CopyT (root next : Int) (ns : List Nd) (w : World) (e : Ending) (w' : World) : Prop := ∃ p cap vs, e = .returned (trV root next p ns.length cap) ∧ OwnT w' w.heap.size (.slice p ns.length cap) vs ns ∧ Below w.heap.size w w'

set_option maxRecDepth 100000 in
set_option maxHeartbeats 4000000 in
theorem copyTree_any (root next : Int) (p : Option Addr) (ns : List Nd) (n cap : Nat) (hn : ns.length = n) (w : World) (h : NodesR w p ns) (hl : n * 56 ≤ 140737488355328) (hk : ∀ x ∈ ns, x.kids.length * 8 ≤ 140737488355328) : Calls Tryz.prog 20 #[trV root next p n cap] w (CopyT root next ns w) := by
  obtain ⟨i0, hi, hz0, hz1, hz2⟩ := info_parts info3
  obtain ⟨i6, hi6, hz06, hz16, hz26⟩ := info_parts info63
  have R := Lib.hid h; have HN := Lib.hid hn; have HK := Lib.hid hk
  clear h hn hk
  unfold trV
  go_enter Tryz.func20, Tryz.ntmps20
  go_wp2_with fail
  have C0 : Hid (CS w (((w.alloc (.cells #[.int .i64 root, .int .i64 next, .slice p n cap] 26)).alloc (.cells #[.int .i64 0, .int .i64 0, .slice none 0 0] 26)).alloc (.cells #[.int .i64 root, .int .i64 next, .slice none 0 0] 26)) root next p n cap (ns.take 0) (.slice none 0 0) []) := Lib.hid (by
    have s1 : (w.alloc (.cells #[.int .i64 root, .int .i64 next, .slice p n cap] 26)).heap.size = w.heap.size + 1 := by simp
    have h1 := heap_alloc_new w (.cells #[.int .i64 root, .int .i64 next, .slice p n cap] 26)
    have h2 := heap_alloc_new (w.alloc (.cells #[.int .i64 root, .int .i64 next, .slice p n cap] 26)) (.cells #[.int .i64 0, .int .i64 0, .slice none 0 0] 26)
    rw [s1] at h2
    have s2 : ((w.alloc (.cells #[.int .i64 root, .int .i64 next, .slice p n cap] 26)).alloc (.cells #[.int .i64 0, .int .i64 0, .slice none 0 0] 26)).heap.size = w.heap.size + 2 := by simp
    have h3 := heap_alloc_new ((w.alloc (.cells #[.int .i64 root, .int .i64 next, .slice p n cap] 26)).alloc (.cells #[.int .i64 0, .int .i64 0, .slice none 0 0] 26)) (.cells #[.int .i64 root, .int .i64 next, .slice none 0 0] 26)
    rw [s2] at h3
    have b1 := (below1 (Below.refl w.heap.size w) (Nat.le_refl _) (.cells #[.int .i64 root, .int .i64 next, .slice p n cap] 26))
    refine ⟨((below2 (Below.refl _ _) (Nat.le_refl _) _ _).block w.heap.size (by rw [s1]; omega)).trans h1, ((below1 (Below.refl _ _) (Nat.le_refl _) _).block (w.heap.size + 1) (by rw [s2]; omega)).trans h2, h3, ownT_none _ _, below2 b1 b1.size _ _⟩)
  generalize ((w.alloc (.cells #[.int .i64 root, .int .i64 next, .slice p n cap] 26)).alloc (.cells #[.int .i64 0, .int .i64 0, .slice none 0 0] 26)).alloc (.cells #[.int .i64 root, .int .i64 next, .slice none 0 0] 26) = W0 at C0 ⊢
  go_loopw [4] (fun v wr => ∃ (i : Nat) (nv : Value) (vs : List Nv), i ≤ n ∧ v = .int .i64 i ∧ Hid (CS w wr root next p n cap (ns.take i) nv vs)) (fun v _ => n - (intOf v).toNat)
  case atStart => exact ⟨0, _, _, by omega, rfl, C0⟩
  case round =>
    clear C0
    obtain ⟨i, nv, vs, hin, rfl, C⟩ := hrel
    have a2 := (obj_cells C.out.boxA).1 2 _ rfl
    obtain ⟨pv, cv, rfl⟩ := C.out.own.row.form
    have HL : Hid (vs.length = i) := Lib.hid (by rw [C.out.own.len, List.length_take, HN.out]; omega)
    rw [HL.out] at C
    by_cases hlt : i < n
    · obtain ⟨x, hx⟩ : ∃ x, ns[i]? = some x := ⟨_, List.getElem?_eq_getElem (by rw [HN.out]; exact hlt)⟩
      have TK : Hid (ns.take (i + 1) = ns.take i ++ [x]) := Lib.hid (by rw [List.take_add_one, hx]; rfl)
      obtain ⟨ab, ao, kp, kc, rfl, hat, hr⟩ := R.out i x hx
      have m1 := hat.below C.out.below
      have n0 : wr.cell? ⟨ab, ao + i * 5, none⟩ = some (.int .i64 x.id) := m1 0 _ rfl
      have n1 : wr.cell? ⟨ab, ao + i * 5 + 1, none⟩ = some (.int .i64 x.kd) := m1 1 _ rfl
      have n2 : wr.cell? ⟨ab, ao + i * 5 + 2, none⟩ = some (.int .i64 x.fr) := m1 2 _ rfl
      have n3 : wr.cell? ⟨ab, ao + i * 5 + 3, none⟩ = some (.int .i64 (Nd.to x)) := m1 3 _ rfl
      have n4 : wr.cell? ⟨ab, ao + i * 5 + 4, none⟩ = some (.slice kp x.kids.length kc) := m1 4 _ rfl
      have ROW := Lib.hid (hr.below C.out.below)
      have hkn := HK.out x (List.mem_of_getElem? hx)
      have hi0 : (0 : Int) ≤ (i : Int) := by omega
      have hi1 : (i : Int) < (n : Int) := by omega
      clear m1 hat hr hx
      obtain ⟨kn, hkl⟩ : ∃ kn, x.kids.length = kn := ⟨_, rfl⟩
      rw [hkl] at n4 hkn
      have KN := Lib.hid hkl
      clear hkl
      have LI : Hid ((lyI.all x.kids).length = kn * 1) := Lib.hid (by rw [all_len, KN.out]; rfl)
      have NON : Hid (kp = none → kn = 0) := Lib.hid (fun e => by have h := ROW.out; rw [e] at h; rw [← KN.out]; exact ints_none h)
      go_upto_region 6 with fail
      have X1 : Hid ((wr.alloc (.cells #[.int .i64 x.id, .int .i64 x.kd, .int .i64 x.fr, .int .i64 (Nd.to x), .slice kp kn kc] 109)).heap[wr.heap.size]? = some (.cells #[.int .i64 x.id, .int .i64 x.kd, .int .i64 x.fr, .int .i64 (Nd.to x), .slice kp kn kc] 109 (0, 0))) := Lib.hid (heap_alloc_new wr _)
      have B1 : Hid (Below wr.heap.size wr (wr.alloc (.cells #[.int .i64 x.id, .int .i64 x.kd, .int .i64 x.fr, .int .i64 (Nd.to x), .slice kp kn kc] 109))) := Lib.hid (below1 (Below.refl _ _) (Nat.le_refl _) _)
      clear n0 n1 n2 n3 n4 a2
      generalize wr.alloc (.cells #[.int .i64 x.id, .int .i64 x.kd, .int .i64 x.fr, .int .i64 (Nd.to x), .slice kp kn kc] 109) = w1 at X1 B1 ⊢
      generalize hxb : wr.heap.size = xb at X1 ⊢
      have XB := Lib.hid hxb
      clear hxb
      have OWI : Hid ((w1.alloc (.cells #[] 3)).ownsRow w1.heap.size 3 1 (.slice (some ⟨w1.heap.size, 0, none⟩) 0 0) 0 []) := Lib.hid (World.ownsRow_lit w1 #[] 0 (Nat.le_refl _) (by decide) rfl)
      have NWI : Hid (∀ ad, kp = some ad → ∀ j u, (lyI.all x.kids)[j]? = some u → (w1.alloc (.cells #[] 3)).cell? (ad.add j) = some u) := Lib.hid (ints_news ((ROW.out.below B1.out).below (below1 (Below.refl _ _) (Nat.le_refl _) _)))
      have y4 : (w1.alloc (.cells #[] 3)).cell? ⟨xb, 4, none⟩ = some (.slice kp kn kc) := cell_later (below1 (Below.refl _ _) (Nat.le_refl _) _) ((obj_cells X1.out).1 4 _ rfl)
      go_upto_region 7 with (at_builtin; refine wpList_append_all _ rfl _ _ 49 rfl w1.heap.size 3 i0 _ 1 8 Tryz.underlying49 hi hz0 hz1 hz2 rfl (by decide) (.slice (some ⟨w1.heap.size, 0, none⟩) 0 0) 0 [] rfl OWI.out kp kn kc (lyI.all x.kids) rfl LI.out NON.out NWI.out (all_ones _) (by unfold maxLen; omega) (by omega) (by simp) kn (by omega) ?_; intro p6 c6 w6 hown6 hgrow6 hblk6; have B6 : Hid (Below w1.heap.size w1 w6) := Lib.hid ((below1 (Below.refl _ _) (Nat.le_refl _) _).trans (below_grownN hgrow6 (fun g hg => by cases hg; exact Nat.le_refl _) (by simp))); have O6 := Lib.hid hown6; have X6 := Lib.hid ((B6.out.block _ (Array.getElem?_eq_some_iff.1 X1.out).1).trans X1.out); have z4 := (obj_cells X6.out).1 4 _ rfl; have zf := (obj_cells X6.out).2.1; clear hown6 hgrow6 hblk6)
      have B7 : Hid (Below wr.heap.size wr (w6.setCell ⟨xb, 4, none⟩ (.slice p6 kn c6))) := Lib.hid (by
        have b6 := B1.out.trans (B6.out.mono B1.out.size)
        exact below_set b6 (by rw [XB.out]; exact Nat.le_refl _) _)
      have C7 := Lib.hid (C.out.later B7.out)
      have X7 : Hid ((w6.setCell ⟨xb, 4, none⟩ (.slice p6 kn c6)).heap[xb]? = some (.cells #[.int .i64 x.id, .int .i64 x.kd, .int .i64 x.fr, .int .i64 (Nd.to x), .slice p6 kn c6] 109 (0, 0))) := Lib.hid (by rw [heap_setCell_at X6.out]; rfl)
      have K7 : Hid (lyI.Own (w6.setCell ⟨xb, 4, none⟩ (.slice p6 kn c6)) w1.heap.size (.slice p6 kn c6) x.kids) := Lib.hid (by
        have h6 : lyI.Own w6 w1.heap.size (.slice p6 kn c6) x.kids := by
          have := O6.out
          unfold Ly.Own
          rw [KN.out]; exact this
        exact h6.kept (set_grown ..) (fun g hg e => by
          have := (h6.lt hg).1
          have hx1 := (Array.getElem?_eq_some_iff.1 X1.out).1
          have e2 := Option.some.inj e
          omega))
      have S7 : Hid (w.heap.size ≤ w1.heap.size ∧ wr.heap.size ≤ w1.heap.size) := Lib.hid ⟨Nat.le_trans C.out.below.size B1.out.size, B1.out.size⟩
      have AP : Hid (∀ (k : Nat) y g, vs[k]? = some y → y.kv.ownBlock = some g → g < wr.heap.size) := Lib.hid (fun k y g hy hg => by
        obtain ⟨m, hm⟩ : ∃ m, (ns.take i)[k]? = some m := ⟨_, List.getElem?_eq_getElem (by rw [← C.out.own.len]; exact (List.getElem?_eq_some_iff.1 hy).1)⟩
        exact ((C.out.own.fit k y m hy hm).2.2.2.2.lt hg).2)
      clear y4 z4 zf X6 O6 B6 OWI NWI X1
      generalize w6.setCell ⟨xb, 4, none⟩ (.slice p6 kn c6) = w7 at B7 C7 X7 K7 ⊢
      have x0 := (obj_cells X7.out).1 0 _ rfl
      have x1 := (obj_cells X7.out).1 1 _ rfl
      have x2 := (obj_cells X7.out).1 2 _ rfl
      have x3 := (obj_cells X7.out).1 3 _ rfl
      have x4 := (obj_cells X7.out).1 4 _ rfl
      have bb2 := (obj_cells C7.out.boxB).1 2 _ rfl
      have OWN : Hid ((w7.alloc (.cells #[.int .i64 x.id, .int .i64 x.kd, .int .i64 x.fr, .int .i64 (Nd.to x), .slice p6 kn c6] 109)).ownsRow w.heap.size 109 5 (.slice pv i cv) i (lyN.all vs)) := Lib.hid (by
        have := C7.out.own.row.below (below1 (Below.refl _ _) (Nat.le_refl _) (.cells #[.int .i64 x.id, .int .i64 x.kd, .int .i64 x.fr, .int .i64 (Nd.to x), .slice p6 kn c6] 109))
        unfold Ly.Own at this
        rw [HL.out] at this
        exact this)
      have C8 := Lib.hid (C7.out.later (below1 (Below.refl _ _) (Nat.le_refl _) (.cells #[.int .i64 x.id, .int .i64 x.kd, .int .i64 x.fr, .int .i64 (Nd.to x), .slice p6 kn c6] 109)))
      have K8 := Lib.hid (K7.out.below (below1 (Below.refl _ _) (Nat.le_refl _) (.cells #[.int .i64 x.id, .int .i64 x.kd, .int .i64 x.fr, .int .i64 (Nd.to x), .slice p6 kn c6] 109)))
      go_wp2_with (at_builtin; refine wpList_append_all _ rfl _ _ 24 rfl w.heap.size 109 i6 _ 5 56 Tryz.underlying24 hi6 hz06 hz16 hz26 rfl (by decide) (.slice pv i cv) i (lyN.all vs) rfl OWN.out (some ⟨w7.heap.size, 0, none⟩) 1 1 (Nv.cells ⟨x.id, x.kd, x.fr, Nd.to x, p6, kn, c6⟩) rfl rfl (fun e => by cases e) (fun ad hp => by cases hp; exact five_new rfl ⟨x.id, x.kd, x.fr, Nd.to x, p6, kn, c6⟩) (lyN.one ⟨x.id, x.kd, x.fr, Nd.to x, p6, kn, c6⟩) (by unfold maxLen; omega) (by omega) C8.out.below.size (i + 1) rfl ?_; intro p9 c9 w9 hown9 hgrow9 hblk9; have G9 := Lib.hid hgrow9; have O9 := Lib.hid hown9; have b9 := box_staysN C8.out.own.row hgrow9 C8.out.boxB (by decide); have bc := (obj_cells b9).1 2 _ rfl; have bf := (obj_cells b9).2.1; clear hown9 hgrow9 hblk9 b9)
      go_roundw
      case rel =>
        refine ⟨i + 1, .slice p9 (i + 1) c9, vs ++ [⟨x.id, x.kd, x.fr, Nd.to x, p6, kn, c6⟩], by omega, by go_num, Lib.hid ?_⟩
        rw [TK.out]
        refine C8.out.push G9.out ⟨x.id, x.kd, x.fr, Nd.to x, p6, kn, c6⟩ x ⟨rfl, rfl, rfl, rfl, K8.out.mono S7.out.1⟩ (fun k y g hy hg e => ?_) ?_
        · have h1 := AP.out k y g hy hg
          have h2 := (K8.out.lt (g := g) e).1
          have h3 := S7.out.2
          omega
        · unfold Ly.Own
          rw [List.length_append, HL.out, List.length_singleton, all_app, all_one]
          exact O9.out
      case measure => simp [intOf]; omega
    · have TN : ns.take i = ns := List.take_of_length_le (by rw [HN.out]; omega)
      have hin2 : i = n := by omega
      subst hin2
      rw [TN] at C
      have b0 := (obj_cells C.out.boxB).1 0 _ rfl
      have b1 := (obj_cells C.out.boxB).1 1 _ rfl
      have b2 := (obj_cells C.out.boxB).1 2 _ rfl
      have r0 := (obj_cells C.out.boxR).1 0 _ rfl
      have r1 := (obj_cells C.out.boxR).1 1 _ rfl
      have r2 := (obj_cells C.out.boxR).1 2 _ rfl
      have rf := (obj_cells C.out.boxR).2.1
      clear TN
      go_wp2_with fail
      refine bodyPost_ret (v := .agg #[.int .i64 root, .int .i64 next, .slice pv i cv]) (by rw [results_cell1 rfl]; go_simp) rfl ?_
      refine ⟨pv, cv, vs, by rw [HN.out]; rfl, ?_, ?_⟩
      · rw [HN.out]
        have g2 := setAll_one wr (w.heap.size + 1) 0 [.int .i64 root, .int .i64 next, .slice pv i cv]
        exact C.out.own.kept g2 C.out.boxR (by decide) (by decide)
      · exact below_set (below_set (below_set C.out.below (by omega) _) (by omega) _) (by omega) _

theorem OwnS.pushK {W w' : World} {base : Nat} {nv nv' : Value} {vs : List Sv} {ss : List St} (h : OwnS W base nv vs ss) (hg : W.grownBy w' nv.ownBlock) (v : Sv) (s : St) (hv : FitS W base v s) (ho : lyS.Own w' base nv' (vs ++ [v])) : OwnS w' base nv' (vs ++ [v]) (ss ++ [s]) := by
  have keep : ∀ (x : Sv) (m : St), FitS W base x m → FitS w' base x m := fun x m hf => hf.kept hg (fun g e => h.row.obj e)
  have hl := h.len
  refine ⟨ho, by rw [List.length_append, List.length_append, hl]; rfl, fun i x m hx hm => ?_⟩
  by_cases hi : i < vs.length
  · rw [List.getElem?_append_left hi] at hx
    rw [List.getElem?_append_left (by omega)] at hm
    exact keep x m (h.fit i x m hx hm)
  · have hi2 : i = vs.length := by have := (List.getElem?_eq_some_iff.1 hx).1; simp at this; omega
    subst hi2
    rw [List.getElem?_append_right (Nat.le_refl _), Nat.sub_self] at hx
    rw [List.getElem?_append_right (by omega), hl, Nat.sub_self] at hm
    simp at hx hm
    subst hx; subst hm
    exact keep _ _ hv
def CopyS (ss : List St) (w : World) (e : Ending) (w' : World) : Prop := ∃ p cap vs, e = .returned (.slice p ss.length cap) ∧ OwnS w' w.heap.size (.slice p ss.length cap) vs ss ∧ Below w.heap.size w w'

set_option maxRecDepth 100000 in
set_option maxHeartbeats 4000000 in
theorem copySteps_any (p : Option Addr) (ss : List St) (n cap : Nat) (hn : ss.length = n) (w : World) (h : StepsR w p ss) (hl : n * 64 ≤ 140737488355328) (hk : ∀ x ∈ ss, x.kids.length * 8 ≤ 140737488355328) : Calls Tryz.prog 61 #[.slice p n cap] w (CopyS ss w) := by
  obtain ⟨i0, hi, hz0, hz1, hz2⟩ := info_parts info3
  obtain ⟨i6, hi6, hz06, hz16, hz26⟩ := info_parts info68
  have R := Lib.hid h; have HN := Lib.hid hn; have HK := Lib.hid hk
  clear h hn hk
  go_enter Tryz.func61, Tryz.ntmps61
  go_wp2_with fail
  go_loopw [3, 4] (fun v3 v4 wr => ∃ (i : Nat) (nv : Value) (vs : List Sv), i ≤ n ∧ v4 = .int .i64 i ∧ v3 = nv ∧ Hid (OwnS wr w.heap.size nv vs (ss.take i)) ∧ Hid (Below w.heap.size w wr)) (fun _ v4 _ => n - (intOf v4).toNat)
  case atStart => exact ⟨0, _, [], by omega, rfl, rfl, Lib.hid (OwnS.nil _ _), Lib.hid (Below.refl _ _)⟩
  case round =>
    obtain ⟨i, nv, vs, hin, rfl, rfl, C, B⟩ := hrel
    obtain ⟨pv, cv, rfl⟩ := C.out.row.form
    have HL : Hid (vs.length = i) := Lib.hid (by rw [C.out.len, List.length_take, HN.out]; omega)
    rw [HL.out] at C ⊢
    by_cases hlt : i < n
    · obtain ⟨x, hx⟩ : ∃ x, ss[i]? = some x := ⟨_, List.getElem?_eq_getElem (by rw [HN.out]; exact hlt)⟩
      have TK : Hid (ss.take (i + 1) = ss.take i ++ [x]) := Lib.hid (by rw [List.take_add_one, hx]; rfl)
      obtain ⟨ab, ao, kp, kc, rfl, hat, hr⟩ := R.out i x hx
      have m1 := hat.below B.out
      have n0 : wr.cell? ⟨ab, ao + i * 6, none⟩ = some (.int .i64 x.kd) := m1 0 _ rfl
      have n1 : wr.cell? ⟨ab, ao + i * 6 + 1, none⟩ = some (.int .i64 x.id) := m1 1 _ rfl
      have n2 : wr.cell? ⟨ab, ao + i * 6 + 2, none⟩ = some (.int .i64 x.nd) := m1 2 _ rfl
      have n3 : wr.cell? ⟨ab, ao + i * 6 + 3, none⟩ = some (.int .i64 x.fr) := m1 3 _ rfl
      have n4 : wr.cell? ⟨ab, ao + i * 6 + 4, none⟩ = some (.int .i64 (St.to x)) := m1 4 _ rfl
      have n5 : wr.cell? ⟨ab, ao + i * 6 + 5, none⟩ = some (.slice kp x.kids.length kc) := m1 5 _ rfl
      have ROW := Lib.hid (hr.below B.out)
      have hkn := HK.out x (List.mem_of_getElem? hx)
      have hi0 : (0 : Int) ≤ (i : Int) := by omega
      have hi1 : (i : Int) < (n : Int) := by omega
      clear m1 hat hr hx
      obtain ⟨kn, hkl⟩ : ∃ kn, x.kids.length = kn := ⟨_, rfl⟩
      rw [hkl] at n5 hkn
      have KN := Lib.hid hkl
      clear hkl
      have LI : Hid ((lyI.all x.kids).length = kn * 1) := Lib.hid (by rw [all_len, KN.out]; rfl)
      have NON : Hid (kp = none → kn = 0) := Lib.hid (fun e => by have h := ROW.out; rw [e] at h; rw [← KN.out]; exact ints_none h)
      go_upto_region 6 with fail
      have X1 : Hid ((wr.alloc (.cells #[.int .i64 x.kd, .int .i64 x.id, .int .i64 x.nd, .int .i64 x.fr, .int .i64 (St.to x), .slice kp kn kc] 51)).heap[wr.heap.size]? = some (.cells #[.int .i64 x.kd, .int .i64 x.id, .int .i64 x.nd, .int .i64 x.fr, .int .i64 (St.to x), .slice kp kn kc] 51 (0, 0))) := Lib.hid (heap_alloc_new wr _)
      have B1 : Hid (Below wr.heap.size wr (wr.alloc (.cells #[.int .i64 x.kd, .int .i64 x.id, .int .i64 x.nd, .int .i64 x.fr, .int .i64 (St.to x), .slice kp kn kc] 51))) := Lib.hid (below1 (Below.refl _ _) (Nat.le_refl _) _)
      clear n0 n1 n2 n3 n4 n5
      generalize wr.alloc (.cells #[.int .i64 x.kd, .int .i64 x.id, .int .i64 x.nd, .int .i64 x.fr, .int .i64 (St.to x), .slice kp kn kc] 51) = w1 at X1 B1 ⊢
      generalize hxb : wr.heap.size = xb at X1 ⊢
      have XB := Lib.hid hxb
      clear hxb
      have OWI : Hid ((w1.alloc (.cells #[] 3)).ownsRow w1.heap.size 3 1 (.slice (some ⟨w1.heap.size, 0, none⟩) 0 0) 0 []) := Lib.hid (World.ownsRow_lit w1 #[] 0 (Nat.le_refl _) (by decide) rfl)
      have NWI : Hid (∀ ad, kp = some ad → ∀ j u, (lyI.all x.kids)[j]? = some u → (w1.alloc (.cells #[] 3)).cell? (ad.add j) = some u) := Lib.hid (ints_news ((ROW.out.below B1.out).below (below1 (Below.refl _ _) (Nat.le_refl _) _)))
      have y5 : (w1.alloc (.cells #[] 3)).cell? ⟨xb, 5, none⟩ = some (.slice kp kn kc) := cell_later (below1 (Below.refl _ _) (Nat.le_refl _) _) ((obj_cells X1.out).1 5 _ rfl)
      go_upto_region 7 with (at_builtin; refine wpList_append_all _ rfl _ _ 49 rfl w1.heap.size 3 i0 _ 1 8 Tryz.underlying49 hi hz0 hz1 hz2 rfl (by decide) (.slice (some ⟨w1.heap.size, 0, none⟩) 0 0) 0 [] rfl OWI.out kp kn kc (lyI.all x.kids) rfl LI.out NON.out NWI.out (all_ones _) (by unfold maxLen; omega) (by omega) (by simp) kn (by omega) ?_; intro p6 c6 w6 hown6 hgrow6 hblk6; have B6 : Hid (Below w1.heap.size w1 w6) := Lib.hid ((below1 (Below.refl _ _) (Nat.le_refl _) _).trans (below_grownN hgrow6 (fun g hg => by cases hg; exact Nat.le_refl _) (by simp))); have O6 := Lib.hid hown6; have X6 := Lib.hid ((B6.out.block _ (Array.getElem?_eq_some_iff.1 X1.out).1).trans X1.out); have z5 := (obj_cells X6.out).1 5 _ rfl; have zf := (obj_cells X6.out).2.1; clear hown6 hgrow6 hblk6)
      have B7 : Hid (Below wr.heap.size wr (w6.setCell ⟨xb, 5, none⟩ (.slice p6 kn c6))) := Lib.hid (by
        have b6 := B1.out.trans (B6.out.mono B1.out.size)
        exact below_set b6 (by rw [XB.out]; exact Nat.le_refl _) _)
      have C7 := Lib.hid (C.out.below B7.out)
      have B70 : Hid (Below w.heap.size w (w6.setCell ⟨xb, 5, none⟩ (.slice p6 kn c6))) := Lib.hid (B.out.trans (B7.out.mono B.out.size))
      have X7 : Hid ((w6.setCell ⟨xb, 5, none⟩ (.slice p6 kn c6)).heap[xb]? = some (.cells #[.int .i64 x.kd, .int .i64 x.id, .int .i64 x.nd, .int .i64 x.fr, .int .i64 (St.to x), .slice p6 kn c6] 51 (0, 0))) := Lib.hid (by rw [heap_setCell_at X6.out]; rfl)
      have K7 : Hid (lyI.Own (w6.setCell ⟨xb, 5, none⟩ (.slice p6 kn c6)) w1.heap.size (.slice p6 kn c6) x.kids) := Lib.hid (by
        have h6 : lyI.Own w6 w1.heap.size (.slice p6 kn c6) x.kids := by
          have := O6.out
          unfold Ly.Own
          rw [KN.out]; exact this
        exact h6.kept (set_grown ..) (fun g hg e => by
          have := (h6.lt hg).1
          have hx1 := (Array.getElem?_eq_some_iff.1 X1.out).1
          have e2 := Option.some.inj e
          omega))
      have S7 : Hid (w.heap.size ≤ w1.heap.size ∧ wr.heap.size ≤ w1.heap.size) := Lib.hid ⟨Nat.le_trans B.out.size B1.out.size, B1.out.size⟩
      clear y5 z5 zf X6 O6 B6 OWI NWI X1
      generalize w6.setCell ⟨xb, 5, none⟩ (.slice p6 kn c6) = w7 at B7 B70 C7 X7 K7 ⊢
      have x0 := (obj_cells X7.out).1 0 _ rfl
      have x1 := (obj_cells X7.out).1 1 _ rfl
      have x2 := (obj_cells X7.out).1 2 _ rfl
      have x3 := (obj_cells X7.out).1 3 _ rfl
      have x4 := (obj_cells X7.out).1 4 _ rfl
      have x5 := (obj_cells X7.out).1 5 _ rfl
      have OWN : Hid ((w7.alloc (.cells #[.int .i64 x.kd, .int .i64 x.id, .int .i64 x.nd, .int .i64 x.fr, .int .i64 (St.to x), .slice p6 kn c6] 51)).ownsRow w.heap.size 51 6 (.slice pv i cv) i (lyS.all vs)) := Lib.hid (by
        have := C7.out.row.below (below1 (Below.refl _ _) (Nat.le_refl _) (.cells #[.int .i64 x.kd, .int .i64 x.id, .int .i64 x.nd, .int .i64 x.fr, .int .i64 (St.to x), .slice p6 kn c6] 51))
        unfold Ly.Own at this
        rw [HL.out] at this
        exact this)
      have bb : Below w7.heap.size w7 (w7.alloc (.cells #[.int .i64 x.kd, .int .i64 x.id, .int .i64 x.nd, .int .i64 x.fr, .int .i64 (St.to x), .slice p6 kn c6] 51)) := below1 (Below.refl _ _) (Nat.le_refl _) _
      have C8 := Lib.hid (C7.out.below bb)
      have K8 := Lib.hid (K7.out.below bb)
      have B80 : Hid (Below w.heap.size w (w7.alloc (.cells #[.int .i64 x.kd, .int .i64 x.id, .int .i64 x.nd, .int .i64 x.fr, .int .i64 (St.to x), .slice p6 kn c6] 51))) := Lib.hid (B70.out.trans (bb.mono B70.out.size))
      clear bb
      go_wp2_with (at_builtin; refine wpList_append_all _ rfl _ _ 52 rfl w.heap.size 51 i6 _ 6 64 Tryz.underlying52 hi6 hz06 hz16 hz26 rfl (by decide) (.slice pv i cv) i (lyS.all vs) rfl OWN.out (some ⟨w7.heap.size, 0, none⟩) 1 1 (Sv.cells ⟨x.kd, x.id, x.nd, x.fr, St.to x, p6, kn, c6⟩) rfl rfl (fun e => by cases e) (fun ad hp => by cases hp; exact six_new rfl ⟨x.kd, x.id, x.nd, x.fr, St.to x, p6, kn, c6⟩) (lyS.one ⟨x.kd, x.id, x.nd, x.fr, St.to x, p6, kn, c6⟩) (by unfold maxLen; omega) (by omega) B80.out.size (i + 1) rfl ?_; intro p9 c9 w9 hown9 hgrow9 hblk9; have G9 := Lib.hid hgrow9; have O9 := Lib.hid hown9; clear hown9 hgrow9 hblk9)
      go_roundw
      case rel =>
        refine ⟨i + 1, .slice p9 (i + 1) c9, vs ++ [⟨x.kd, x.id, x.nd, x.fr, St.to x, p6, kn, c6⟩], by omega, by go_num, rfl, Lib.hid ?_, Lib.hid ?_⟩
        · rw [TK.out]
          refine C8.out.pushK G9.out ⟨x.kd, x.id, x.nd, x.fr, St.to x, p6, kn, c6⟩ x ⟨rfl, rfl, rfl, rfl, rfl, K8.out.mono S7.out.1⟩ ?_
          unfold Ly.Own
          rw [List.length_append, HL.out, List.length_singleton, all_app, all_one]
          exact O9.out
        · exact B80.out.trans (below_grownN G9.out (fun g hg => (C8.out.row.lt hg).1) B80.out.size)
      case measure => simp [intOf]; omega
    · have TN : ss.take i = ss := List.take_of_length_le (by rw [HN.out]; omega)
      have hin2 : i = n := by omega
      subst hin2
      rw [TN] at C
      go_wp2_with fail
      go_ret
      exact ⟨pv, cv, vs, by rw [HN.out]; rfl, by rw [HN.out]; exact C.out, B.out⟩

end Go.Proofs.YtjmfjlffcopnnaaGreatDoor
