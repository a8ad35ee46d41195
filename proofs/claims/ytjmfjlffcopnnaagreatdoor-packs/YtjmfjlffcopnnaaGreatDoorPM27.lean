/-
  Sp4, Sb1, in one text. Conditions: as each theorem's premises say.
-/
import Derived.Test.YtjmfjlffcopnnaaGreatDoorPM26
import Derived.Test.YtjmfjlffcopnnaaGreatDoorPM25
import Derived.Test.YtjmfjlffcopnnaaGreatDoorPM03
namespace Go.Proofs.YtjmfjlffcopnnaaGreatDoor
open Go.RowKit
open Go.Proofs.YtjmfjlffcopnnaaGreatDoor.K (C RowC)

set_option maxRecDepth 100000 in
theorem spoilComps_none (p : Option Addr) (cap : Nat) (w : World) : Calls Tryz.prog 49 #[.slice p 0 cap] w (fun e w' => e = .returned (.tuple #[]) ∧ w = w') := by
  go_enter Tryz.func49, Tryz.ntmps49
  go_wp2_with fail
  go_loopw [2] (fun v wr => v = .int .i64 0 ∧ w = wr) (fun _ _ => 0)
  case atStart => exact ⟨rfl, rfl⟩
  case round =>
    obtain ⟨rfl, rfl⟩ := hrel
    go_wp2_with fail
    first
      | refine bodyPost_ret (results_none rfl _ _ _) rfl ?_
      | refine bodyPost_end (results_none rfl _ _ _) rfl ?_
    exact ⟨rfl, rfl⟩
set_option maxRecDepth 100000 in
theorem spoilEntries_none (p : Option Addr) (cap : Nat) (w : World) : Calls Tryz.prog 50 #[.slice p 0 cap] w (fun e w' => e = .returned (.tuple #[]) ∧ w = w') := by
  go_enter Tryz.func50, Tryz.ntmps50
  go_wp2_with fail
  go_loopw [2] (fun v wr => v = .int .i64 0 ∧ w = wr) (fun _ _ => 0)
  case atStart => exact ⟨rfl, rfl⟩
  case round =>
    obtain ⟨rfl, rfl⟩ := hrel
    go_wp2_with fail
    first
      | refine bodyPost_ret (results_none rfl _ _ _) rfl ?_
      | refine bodyPost_end (results_none rfl _ _ _) rfl ?_
    exact ⟨rfl, rfl⟩
set_option maxRecDepth 100000 in
theorem spoilTree_none (root next : Int) (p : Option Addr) (cap : Nat) (w : World) : Calls Tryz.prog 51 #[.agg #[.int .i64 root, .int .i64 next, .slice p 0 cap]] w (fun e w' => e = .returned (.tuple #[]) ∧ Below w.heap.size w w') := by
  have bb : Hid (Below w.heap.size w (w.alloc (.cells #[.int .i64 root, .int .i64 next, .slice p 0 cap] 26))) := Lib.hid (below1 (Below.refl _ _) (Nat.le_refl _) _)
  have XB : Hid ((w.alloc (.cells #[.int .i64 root, .int .i64 next, .slice p 0 cap] 26)).heap[w.heap.size]? = some (.cells #[.int .i64 root, .int .i64 next, .slice p 0 cap] 26 (0, 0))) := Lib.hid (heap_alloc_new w _)
  go_enter Tryz.func51, Tryz.ntmps51
  go_upto_region 1 with fail
  generalize (w.alloc (.cells #[.int .i64 root, .int .i64 next, .slice p 0 cap] 26)) = w1 at bb XB ⊢
  generalize w.heap.size = tb at XB ⊢
  go_wp2_with fail
  go_loopw [2] (fun v wr => v = .int .i64 0 ∧ w1 = wr) (fun _ _ => 0)
  case atStart => exact ⟨rfl, rfl⟩
  case round =>
    obtain ⟨rfl, rfl⟩ := hrel
    have x2 := (obj_cells XB.out).1 2 _ rfl
    go_wp2_with fail
    first
      | refine bodyPost_ret (results_none rfl _ _ _) rfl ?_
      | refine bodyPost_end (results_none rfl _ _ _) rfl ?_
    exact ⟨rfl, bb.out⟩

/-- A message that may be written over. -/
def SpM (w : World) (base : Nat) (m : Ms) (q : Mq) : Prop :=
  (m.es.length = 0 ∧ m.ns.length = 0 ∧ ∃ l, lyC.Own w base (.slice q.ep m.ed.length q.ec) l ∧ l.length ≤ 4096)
  ∨ (m.ed.length = 0 ∧ m.ns.length = 0 ∧ m.es.length ≤ 100000 ∧ ∃ B vs, SpE w base (.slice q.sp m.es.length q.sc) m.es.length B 0 vs ∧ ∀ j g, B j g → g < w.heap.size)
  ∨ (m.ed.length = 0 ∧ m.es.length = 0 ∧ m.ns.length ≤ 100000 ∧ ∃ vs, SpT w base (.slice q.np m.ns.length q.nc) m.ns.length vs ∧ ∀ x ∈ vs, x.kn ≤ 140737488355328)
theorem SpT.below {w w' : World} {base n : Nat} {v : Value} {vs : List Nv} (h : SpT w base v n vs) (hb : Below w.heap.size w w') : SpT w' base v n vs :=
  ⟨h.row.below hb, h.len, fun i x hx => by
    obtain ⟨l, hl⟩ := h.kids i x hx
    exact ⟨l, hl.below hb⟩, h.apart⟩
theorem SpM.later {w w' : World} {base : Nat} {m : Ms} {q : Mq} (h : SpM w base m q) (hb : Below w.heap.size w w') : SpM w' base m q := by
  rcases h with ⟨h1, h2, l, h3, h4⟩ | ⟨h1, h2, h3, B, vs, h4, h5⟩ | ⟨h1, h2, h3, vs, h4, h5⟩
  · exact .inl ⟨h1, h2, l, h3.below hb, h4⟩
  · exact .inr (.inl ⟨h1, h2, h3, B, vs, h4.later hb, fun j g e => Nat.lt_of_lt_of_le (h5 j g e) hb.size⟩)
  · exact .inr (.inr ⟨h1, h2, h3, vs, h4.below hb, h5⟩)

set_option maxRecDepth 100000 in
set_option maxHeartbeats 2000000 in
theorem spoilMsg_any (base : Nat) (m : Ms) (q : Mq) (w : World) (h : SpM w base m q) (hb : base ≤ w.heap.size) : Calls Tryz.prog 14 #[msV m q] w (SpTB base w) := by
  obtain ⟨kd, cl, rv, sq, fr, ls, rf, tx, ro, nx, ns, ed, es⟩ := m
  obtain ⟨ep, ec, sp, sc, np, nc⟩ := q
  unfold SpM at h
  unfold msV
  dsimp only at *
  generalize ed.length = en at *
  generalize es.length = sn at *
  generalize ns.length = nn at *
  clear ns ed es
  have HB := Lib.hid hb
  clear hb
  have XB : Hid ((w.alloc (.cells #[.int .i64 kd, .int .i64 cl, .int .i64 rv, .int .i64 sq, .int .i64 fr, .int .i64 ls, .bool rf, .slice ep en ec, .slice sp sn sc, .string tx, .int .i64 ro, .int .i64 nx, .slice np nn nc] 28)).heap[w.heap.size]? = some (.cells #[.int .i64 kd, .int .i64 cl, .int .i64 rv, .int .i64 sq, .int .i64 fr, .int .i64 ls, .bool rf, .slice ep en ec, .slice sp sn sc, .string tx, .int .i64 ro, .int .i64 nx, .slice np nn nc] 28 (0, 0))) := Lib.hid (heap_alloc_new w _)
  have bb : Hid (Below w.heap.size w (w.alloc (.cells #[.int .i64 kd, .int .i64 cl, .int .i64 rv, .int .i64 sq, .int .i64 fr, .int .i64 ls, .bool rf, .slice ep en ec, .slice sp sn sc, .string tx, .int .i64 ro, .int .i64 nx, .slice np nn nc] 28))) := Lib.hid (below1 (Below.refl _ _) (Nat.le_refl _) _)
  rcases h with ⟨rfl, rfl, l, h3, h4⟩ | ⟨rfl, rfl, h3, B, vs, h4, h5⟩ | ⟨rfl, rfl, h3, vs, h4, h5⟩
  · have H3 := Lib.hid h3
    clear h3
    go_enter Tryz.func14, Tryz.ntmps14
    go_upto_region 1 with fail
    generalize hw1 : (w.alloc (.cells #[.int .i64 kd, .int .i64 cl, .int .i64 rv, .int .i64 sq, .int .i64 fr, .int .i64 ls, .bool rf, .slice ep en ec, .slice sp 0 sc, .string tx, .int .i64 ro, .int .i64 nx, .slice np 0 nc] 28)) = w1 at XB bb ⊢
    clear hw1
    have C1 := Lib.hid (K.spoil_any base _ l w1 (H3.out.below bb.out) h4)
    have F1 : Hid (∀ W, w1.grownBy W (Value.slice ep en ec).ownBlock → W.heap[w.heap.size]? = some (.cells #[.int .i64 kd, .int .i64 cl, .int .i64 rv, .int .i64 sq, .int .i64 fr, .int .i64 ls, .bool rf, .slice ep en ec, .slice sp 0 sc, .string tx, .int .i64 ro, .int .i64 nx, .slice np 0 nc] 28 (0, 0)) ∧ Below base w W) := Lib.hid (fun W hW => ⟨(hW.block _ (Array.getElem?_eq_some_iff.1 XB.out).1 (fun e => by
        have := ((H3.out).lt e.symm).2
        omega)).trans XB.out, (bb.out.mono HB.out).trans (below_grownN hW (fun g e => (H3.out.lt e).1) (Nat.le_trans HB.out bb.out.size))⟩)
    generalize w.heap.size = tb at XB F1 ⊢
    have x7 := (obj_cells XB.out).1 7 _ rfl
    go_upto_region 2 with (go_at_call 49; refine C1.out.mono ?_; rintro e w2 ⟨rfl, hg⟩; have X2 := Lib.hid (F1.out w2 hg); have y8 := (obj_cells X2.out.1).1 8 _ rfl; have y10 := (obj_cells X2.out.1).1 10 _ rfl; have y11 := (obj_cells X2.out.1).1 11 _ rfl; have y12 := (obj_cells X2.out.1).1 12 _ rfl; clear hg)
    go_wp2_with (first | (go_at_call 50; refine (spoilEntries_none sp sc w2).mono ?_; rintro e w3 ⟨rfl, rfl⟩) | (go_at_call 51; refine (spoilTree_none ro nx np nc w2).mono ?_; rintro e w4 ⟨rfl, hb4⟩; have B4 := Lib.hid (X2.out.2.trans (hb4.mono (Nat.le_trans HB.out X2.out.2.size))); clear hb4))
    (try simp only [Exit.inBlock, Exit.then])
    refine bodyPost_ret (results_none rfl _ _ _) rfl ?_
    exact ⟨rfl, B4.out⟩
  · have H4 := Lib.hid h4
    have H5 := Lib.hid h5
    clear h4 h5
    go_enter Tryz.func14, Tryz.ntmps14
    go_upto_region 1 with fail
    generalize hw1 : (w.alloc (.cells #[.int .i64 kd, .int .i64 cl, .int .i64 rv, .int .i64 sq, .int .i64 fr, .int .i64 ls, .bool rf, .slice ep 0 ec, .slice sp sn sc, .string tx, .int .i64 ro, .int .i64 nx, .slice np 0 nc] 28)) = w1 at XB bb ⊢
    clear hw1
    have C1 := Lib.hid (spoilEntries_any base w.heap.size B sp vs sn sc w1 (H4.out.later bb.out) h3 H5.out (fun g e => (H4.out.row.lt e).2))
    have F1 : Hid (∀ W, Touch (fun k => base ≤ k ∧ k < w.heap.size) w1 W → W.heap[w.heap.size]? = some (.cells #[.int .i64 kd, .int .i64 cl, .int .i64 rv, .int .i64 sq, .int .i64 fr, .int .i64 ls, .bool rf, .slice ep 0 ec, .slice sp sn sc, .string tx, .int .i64 ro, .int .i64 nx, .slice np 0 nc] 28 (0, 0)) ∧ Below base w W) := Lib.hid (fun W hW => ⟨hW.obj XB.out (by omega), (bb.out.mono HB.out).trans (hW.below (fun k hk => hk.1) (Nat.le_trans HB.out bb.out.size))⟩)
    generalize w.heap.size = tb at XB F1 C1 ⊢
    have x7 := (obj_cells XB.out).1 7 _ rfl
    have x8 := (obj_cells XB.out).1 8 _ rfl
    go_upto_region 2 with (go_at_call 49; refine (spoilComps_none ep ec w1).mono ?_; rintro e w2 ⟨rfl, rfl⟩)
    go_upto_region 3 with (go_at_call 50; refine C1.out.mono ?_; rintro e w2 ⟨rfl, hg⟩; have X2 := Lib.hid (F1.out w2 hg); have y10 := (obj_cells X2.out.1).1 10 _ rfl; have y11 := (obj_cells X2.out.1).1 11 _ rfl; have y12 := (obj_cells X2.out.1).1 12 _ rfl; clear hg)
    go_wp2_with (go_at_call 51; refine (spoilTree_none ro nx np nc w2).mono ?_; rintro e w4 ⟨rfl, hb4⟩; have B4 := Lib.hid (X2.out.2.trans (hb4.mono (Nat.le_trans HB.out X2.out.2.size))); clear hb4)
    (try simp only [Exit.inBlock, Exit.then])
    refine bodyPost_ret (results_none rfl _ _ _) rfl ?_
    exact ⟨rfl, B4.out⟩
  · have H4 := Lib.hid h4
    have H5 := Lib.hid h5
    clear h4 h5
    go_enter Tryz.func14, Tryz.ntmps14
    go_upto_region 1 with fail
    generalize hw1 : (w.alloc (.cells #[.int .i64 kd, .int .i64 cl, .int .i64 rv, .int .i64 sq, .int .i64 fr, .int .i64 ls, .bool rf, .slice ep 0 ec, .slice sp 0 sc, .string tx, .int .i64 ro, .int .i64 nx, .slice np nn nc] 28)) = w1 at XB bb ⊢
    clear hw1
    have C1 := Lib.hid (spoilTree_any base ro nx np vs nn nc w1 (H4.out.below bb.out) (Nat.le_trans HB.out bb.out.size) h3 H5.out)
    have B1 := Lib.hid (bb.out.mono HB.out)
    generalize w.heap.size = tb at XB ⊢
    have x7 := (obj_cells XB.out).1 7 _ rfl
    have x8 := (obj_cells XB.out).1 8 _ rfl
    have y10 := (obj_cells XB.out).1 10 _ rfl
    have y11 := (obj_cells XB.out).1 11 _ rfl
    have y12 := (obj_cells XB.out).1 12 _ rfl
    go_upto_region 2 with (go_at_call 49; refine (spoilComps_none ep ec w1).mono ?_; rintro e w2 ⟨rfl, rfl⟩)
    go_upto_region 3 with (go_at_call 50; refine (spoilEntries_none sp sc w1).mono ?_; rintro e w2 ⟨rfl, rfl⟩)
    go_wp2_with (go_at_call 51; refine C1.out.mono ?_; rintro e w4 ⟨rfl, hb4⟩; have B4 := Lib.hid (B1.out.trans hb4); clear hb4)
    (try simp only [Exit.inBlock, Exit.then])
    refine bodyPost_ret (results_none rfl _ _ _) rfl ?_
    exact ⟨rfl, B4.out⟩

end Go.Proofs.YtjmfjlffcopnnaaGreatDoor

namespace Go.Proofs.YtjmfjlffcopnnaaGreatDoor
open Go.RowKit
open Go.Proofs.YtjmfjlffcopnnaaGreatDoor.K (C RowC)

theorem four_new {W : World} {b : Nat} (hb : W.heap.size = b) (x : Ev) : ∀ j u, (Ev.cells x)[j]? = some u → (W.alloc (.cells (Ev.cells x).toArray 54)).cell? ((⟨b, 0, none⟩ : Addr).add j) = some u := by
  intro j u hu
  subst hb
  rw [add_plain, Nat.zero_add, World.cell?_alloc_at _ _ _ _ rfl]
  simpa using hu
def CopyCP (cs : List C) (w : World) (e : Ending) (w' : World) : Prop := ∃ p cap, e = .returned (.slice p cs.length cap) ∧ lyC.Own w' w.heap.size (.slice p cs.length cap) cs ∧ Below w.heap.size w w'
theorem copyComps_any (p : Option Addr) (cs : List C) (n cap : Nat) (hn : cs.length = n) (w : World) (hr : RowC w p cs) (hl : n * 32 ≤ 140737488355328) : Calls Tryz.prog 18 #[.slice p n cap] w (CopyCP cs w) := by
  subst hn
  refine (K.copy_any p cs cap w hr hl).mono ?_
  rintro e w' ⟨v, h1, h2, _, h3⟩
  have h4 : lyC.Own w' w.heap.size v cs := h2
  obtain ⟨kp, kc, rfl⟩ := h4.form
  exact ⟨kp, kc, h1, h4, h3⟩
def CopyEP (es : List En) (w : World) (e : Ending) (w' : World) : Prop := ∃ p cap vs, e = .returned (.slice p es.length cap) ∧ OwnE w' w.heap.size (.slice p es.length cap) vs es ∧ Below w.heap.size w w'

set_option maxRecDepth 100000 in
set_option maxHeartbeats 4000000 in
theorem copyEntries_any (p : Option Addr) (es : List En) (n cap : Nat) (hn : es.length = n) (w : World) (h : EntsR w p es) (hl : n * 64 ≤ 140737488355328) (hk : ∀ x ∈ es, x.ed.length * 32 ≤ 140737488355328 ∧ x.dl.length * 64 ≤ 140737488355328 ∧ ∀ s ∈ x.dl, s.kids.length * 8 ≤ 140737488355328) : Calls Tryz.prog 19 #[.slice p n cap] w (CopyEP es w) := by
  obtain ⟨i6, hi6, hz06, hz16, hz26⟩ := info_parts info54
  have R := Lib.hid h; have HN := Lib.hid hn; have HK := Lib.hid hk
  clear h hn hk
  go_enter Tryz.func19, Tryz.ntmps19
  go_wp2_with fail
  go_loopw [3, 4] (fun v3 v4 wr => ∃ (i : Nat) (nv : Value) (vs : List Ev), i ≤ n ∧ v4 = .int .i64 i ∧ v3 = nv ∧ Hid (OwnE wr w.heap.size nv vs (es.take i)) ∧ Hid (Below w.heap.size w wr)) (fun _ v4 _ => n - (intOf v4).toNat)
  case atStart => exact ⟨0, _, [], by omega, rfl, rfl, Lib.hid (OwnE.nil _ _), Lib.hid (Below.refl _ _)⟩
  case round =>
    obtain ⟨i, nv, vs, hin, rfl, rfl, C, B⟩ := hrel
    obtain ⟨pv, cv, rfl⟩ := C.out.row.form
    have HL : Hid (vs.length = i) := Lib.hid (by rw [C.out.len, List.length_take, HN.out]; omega)
    rw [HL.out] at C ⊢
    by_cases hlt : i < n
    · obtain ⟨x, hx⟩ : ∃ x, es[i]? = some x := ⟨_, List.getElem?_eq_getElem (by rw [HN.out]; exact hlt)⟩
      have TK : Hid (es.take (i + 1) = es.take i ++ [x]) := Lib.hid (by rw [List.take_add_one, hx]; rfl)
      obtain ⟨ab, ao, ep, ec, dp, dc, rfl, hat, hr, hs⟩ := R.out i x hx
      have m1 := hat.below B.out
      have n0 : wr.cell? ⟨ab, ao + i * 4, none⟩ = some (.int .i64 x.cl) := m1 0 _ rfl
      have n1 : wr.cell? ⟨ab, ao + i * 4 + 1, none⟩ = some (.int .i64 x.sq) := m1 1 _ rfl
      have n2 : wr.cell? ⟨ab, ao + i * 4 + 2, none⟩ = some (.slice ep x.ed.length ec) := m1 2 _ rfl
      have n3 : wr.cell? ⟨ab, ao + i * 4 + 3, none⟩ = some (.slice dp x.dl.length dc) := m1 3 _ rfl
      obtain ⟨k1, k2, k3⟩ := HK.out x (List.mem_of_getElem? hx)
      have CC : Hid (∀ W, Below wr.heap.size wr W → Calls Tryz.prog 18 #[.slice ep x.ed.length ec] W (CopyCP x.ed W)) := Lib.hid (fun W hW => copyComps_any ep x.ed _ ec rfl W (rowC_below (rowC_below hr B.out) hW) k1)
      have CS : Hid (∀ W, Below wr.heap.size wr W → Calls Tryz.prog 61 #[.slice dp x.dl.length dc] W (CopyS x.dl W)) := Lib.hid (fun W hW => copySteps_any dp x.dl _ dc rfl W ((hs.below B.out).below hW) k2 k3)
      have hi0 : (0 : Int) ≤ (i : Int) := by omega
      have hi1 : (i : Int) < (n : Int) := by omega
      clear m1 hat hr hs hx k1 k2 k3
      obtain ⟨en, hen⟩ : ∃ en, x.ed.length = en := ⟨_, rfl⟩
      obtain ⟨dn, hdn⟩ : ∃ dn, x.dl.length = dn := ⟨_, rfl⟩
      rw [hen] at n2 CC
      rw [hdn] at n3 CS
      have EN := Lib.hid hen
      have DN := Lib.hid hdn
      clear hen hdn
      go_upto_region 6 with fail
      have X1 : Hid ((wr.alloc (.cells #[.int .i64 x.cl, .int .i64 x.sq, .slice ep en ec, .slice dp dn dc] 54)).heap[wr.heap.size]? = some (.cells #[.int .i64 x.cl, .int .i64 x.sq, .slice ep en ec, .slice dp dn dc] 54 (0, 0))) := Lib.hid (heap_alloc_new wr _)
      have B1 : Hid (Below wr.heap.size wr (wr.alloc (.cells #[.int .i64 x.cl, .int .i64 x.sq, .slice ep en ec, .slice dp dn dc] 54))) := Lib.hid (below1 (Below.refl _ _) (Nat.le_refl _) _)
      have S1 : Hid (wr.heap.size < (wr.alloc (.cells #[.int .i64 x.cl, .int .i64 x.sq, .slice ep en ec, .slice dp dn dc] 54)).heap.size) := Lib.hid (by simp)
      clear n0 n1 n2 n3
      generalize wr.alloc (.cells #[.int .i64 x.cl, .int .i64 x.sq, .slice ep en ec, .slice dp dn dc] 54) = w1 at X1 B1 S1 ⊢
      generalize hxb : wr.heap.size = xb at X1 S1 ⊢
      have XB := Lib.hid hxb
      clear hxb
      have y2 := (obj_cells X1.out).1 2 _ rfl
      go_upto_region 7 with (go_at_call 18; refine (CC.out _ B1.out).mono ?_; rintro e w2 ⟨kp, kc, rfl, ho, hb⟩; have O2 := Lib.hid ho; have B2 := Lib.hid hb; have X2 := Lib.hid (heap_later X1.out hb); have z2 := (obj_cells X2.out).1 2 _ rfl; have zf := (obj_cells X2.out).2.1 2; clear ho hb)
      rw [EN.out] at O2
      have E3 : (w2.setCell ⟨xb, 2, none⟩ (.slice kp x.ed.length kc)) = (w2.setCell ⟨xb, 2, none⟩ (.slice kp en kc)) := by rw [EN.out]
      rw [E3]
      have X3 : Hid ((w2.setCell ⟨xb, 2, none⟩ (.slice kp en kc)).heap[xb]? = some (.cells #[.int .i64 x.cl, .int .i64 x.sq, .slice kp en kc, .slice dp dn dc] 54 (0, 0))) := Lib.hid (by rw [heap_setCell_at X2.out]; rfl)
      have B3 : Hid (Below wr.heap.size wr (w2.setCell ⟨xb, 2, none⟩ (.slice kp en kc))) := Lib.hid (below_set (B1.out.trans (B2.out.mono B1.out.size)) (by rw [XB.out]; exact Nat.le_refl _) _)
      have O3 : Hid (lyC.Own (w2.setCell ⟨xb, 2, none⟩ (.slice kp en kc)) w1.heap.size (.slice kp en kc) x.ed) := Lib.hid (compsOwn_kept O2.out (set_grown ..) X2.out (by decide))
      have S3 : Hid (xb < (w2.setCell ⟨xb, 2, none⟩ (.slice kp en kc)).heap.size) := Lib.hid (obj_cells X3.out).2.2
      clear E3 y2 z2 zf X2 O2 B2 X1
      generalize w2.setCell ⟨xb, 2, none⟩ (.slice kp en kc) = w3 at X3 B3 O3 S3 ⊢
      have y3 := (obj_cells X3.out).1 3 _ rfl
      go_upto_region 8 with (go_at_call 61; refine (CS.out _ B3.out).mono ?_; rintro e w4 ⟨sp, sc, us, rfl, ho, hb⟩; have O4 := Lib.hid ho; have B4 := Lib.hid hb; have X4 := Lib.hid (heap_later X3.out hb); have z3 := (obj_cells X4.out).1 3 _ rfl; have zf := (obj_cells X4.out).2.1 3; clear ho hb)
      rw [DN.out] at O4
      have E5 : (w4.setCell ⟨xb, 3, none⟩ (.slice sp x.dl.length sc)) = (w4.setCell ⟨xb, 3, none⟩ (.slice sp dn sc)) := by rw [DN.out]
      rw [E5]
      have X5 : Hid ((w4.setCell ⟨xb, 3, none⟩ (.slice sp dn sc)).heap[xb]? = some (.cells #[.int .i64 x.cl, .int .i64 x.sq, .slice kp en kc, .slice sp dn sc] 54 (0, 0))) := Lib.hid (by rw [heap_setCell_at X4.out]; rfl)
      have B5 : Hid (Below wr.heap.size wr (w4.setCell ⟨xb, 3, none⟩ (.slice sp dn sc))) := Lib.hid (below_set (B3.out.trans (B4.out.mono B3.out.size)) (by rw [XB.out]; exact Nat.le_refl _) _)
      have O5 : Hid (OwnS (w4.setCell ⟨xb, 3, none⟩ (.slice sp dn sc)) w3.heap.size (.slice sp dn sc) us x.dl) := Lib.hid (O4.out.kept (set_grown ..) X4.out (by decide) (by decide))
      have P5 : Hid (lyC.Own (w4.setCell ⟨xb, 3, none⟩ (.slice sp dn sc)) w1.heap.size (.slice kp en kc) x.ed) := Lib.hid (compsOwn_kept (O3.out.below B4.out) (set_grown ..) X4.out (by decide))
      have M3 : Hid (w.heap.size ≤ w3.heap.size) := Lib.hid (Nat.le_trans B.out.size B3.out.size)
      have M1 : Hid (w.heap.size ≤ w1.heap.size) := Lib.hid (Nat.le_trans B.out.size B1.out.size)
      clear E5 y3 z3 zf X4 O4 B4 X3 O3
      generalize w4.setCell ⟨xb, 3, none⟩ (.slice sp dn sc) = w7 at X5 B5 O5 P5 ⊢
      have x0 := (obj_cells X5.out).1 0 _ rfl
      have x1 := (obj_cells X5.out).1 1 _ rfl
      have x2 := (obj_cells X5.out).1 2 _ rfl
      have x3 := (obj_cells X5.out).1 3 _ rfl
      have C7 := Lib.hid (C.out.below B5.out)
      have bb : Below w7.heap.size w7 (w7.alloc (.cells #[.int .i64 x.cl, .int .i64 x.sq, .slice kp en kc, .slice sp dn sc] 54)) := below1 (Below.refl _ _) (Nat.le_refl _) _
      have OWN : Hid ((w7.alloc (.cells #[.int .i64 x.cl, .int .i64 x.sq, .slice kp en kc, .slice sp dn sc] 54)).ownsRow w.heap.size 54 4 (.slice pv i cv) i (lyE.all vs)) := Lib.hid (by
        have := C7.out.row.below bb
        unfold Ly.Own at this
        rw [HL.out] at this
        exact this)
      have C8 := Lib.hid (C7.out.below bb)
      have O8 := Lib.hid (O5.out.below bb)
      have P8 := Lib.hid (P5.out.below bb)
      have B80 : Hid (Below w.heap.size w (w7.alloc (.cells #[.int .i64 x.cl, .int .i64 x.sq, .slice kp en kc, .slice sp dn sc] 54))) := Lib.hid ((B.out.trans (B5.out.mono B.out.size)).trans (bb.mono (Nat.le_trans B.out.size B5.out.size)))
      clear bb
      go_wp2_with (at_builtin; refine wpList_append_all _ rfl _ _ 23 rfl w.heap.size 54 i6 _ 4 64 Tryz.underlying23 hi6 hz06 hz16 hz26 rfl (by decide) (.slice pv i cv) i (lyE.all vs) rfl OWN.out (some ⟨w7.heap.size, 0, none⟩) 1 1 (Ev.cells ⟨x.cl, x.sq, kp, en, kc, sp, dn, sc⟩) rfl rfl (fun e => by cases e) (fun ad hp => by cases hp; exact four_new rfl ⟨x.cl, x.sq, kp, en, kc, sp, dn, sc⟩) (lyE.one ⟨x.cl, x.sq, kp, en, kc, sp, dn, sc⟩) (by unfold maxLen; omega) (by omega) B80.out.size (i + 1) rfl ?_; intro p9 c9 w9 hown9 hgrow9 hblk9; have G9 := Lib.hid hgrow9; have O9 := Lib.hid hown9; clear hown9 hgrow9 hblk9)
      go_roundw
      case rel =>
        refine ⟨i + 1, .slice p9 (i + 1) c9, vs ++ [⟨x.cl, x.sq, kp, en, kc, sp, dn, sc⟩], by omega, by go_num, rfl, Lib.hid ?_, Lib.hid ?_⟩
        · rw [TK.out]
          refine C8.out.pushK G9.out ⟨x.cl, x.sq, kp, en, kc, sp, dn, sc⟩ x ⟨rfl, rfl, P8.out.mono M1.out, us, O8.out.mono M3.out⟩ ?_
          unfold Ly.Own
          rw [List.length_append, HL.out, List.length_singleton, all_app, all_one]
          exact O9.out
        · exact B80.out.trans (below_grownN G9.out (fun g hg => (C8.out.row.lt hg).1) B80.out.size)
      case measure => simp [intOf]; omega
    · have TN : es.take i = es := List.take_of_length_le (by rw [HN.out]; omega)
      have hin2 : i = n := by omega
      subst hin2
      rw [TN] at C
      go_wp2_with fail
      go_ret
      exact ⟨pv, cv, vs, by rw [HN.out]; rfl, by rw [HN.out]; exact C.out, B.out⟩

end Go.Proofs.YtjmfjlffcopnnaaGreatDoor
