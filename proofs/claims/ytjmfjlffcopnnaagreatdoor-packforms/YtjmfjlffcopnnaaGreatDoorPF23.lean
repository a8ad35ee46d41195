/-
  Ta9, Sp4, Sb1, Sb2, Ta7, Tb2, Tb3, Ta8, Tb4, Tb1, Sa1, Sa2, Lw0, Frz, Args, Lw3, Lw4, in one text. Conditions: as each theorem's premises say.
-/
import Derived.Test.YtjmfjlffcopnnaaGreatDoorPF21
import Derived.Test.YtjmfjlffcopnnaaGreatDoorPF22
import Derived.Test.YtjmfjlffcopnnaaGreatDoorPF02
import Derived.Test.YtjmfjlffcopnnaaGreatDoorPF19
import Derived.Test.YtjmfjlffcopnnaaGreatDoorPF17
import Derived.Lib.AppendIntMem
import Derived.Test.YtjmfjlffcopnnaaGreatDoorRows
import Derived.Lib.LaidTab
import Derived.LaidMore
import Derived.LaidHandle
import Derived.MakeChecks
import Derived.Stop.LaidErr
import Derived.Stop.Joined
import Derived.ProofKit
import Derived.OpenShut
import Derived.Deep.Slices
import Derived.SizedLaws
import Derived.Deep.RegionHeld3
namespace Go.Proofs.YtjmfjlffcopnnaaGreatDoor
open Go.RowKit
open Go.Proofs.YtjmfjlffcopnnaaGreatDoor.K (C RowC)

structure OwnM (w : World) (base : Nat) (m : Ms) (q : Mq) : Prop where
  ed : lyC.Own w base (.slice q.ep m.ed.length q.ec) m.ed
  es : ∃ vs, OwnE w base (.slice q.sp m.es.length q.sc) vs m.es
  ns : ∃ vs, OwnT w base (.slice q.np m.ns.length q.nc) vs m.ns
theorem OwnM.read {w : World} {base : Nat} {m : Ms} {q : Mq} (h : OwnM w base m q) : MsR w m q := by
  obtain ⟨h1, ⟨es, h2⟩, ns, h3⟩ := h
  exact ⟨own_rowC h1, h2.read, h3.read⟩
theorem OwnM.kept {w w' : World} {base g : Nat} {m : Ms} {q : Mq} {c : Array Value} {e : TypeId} (h : OwnM w base m q) (hg : w.grownBy w' (some g)) (hc : w.heap[g]? = some (.cells c e (0, 0))) (h1 : e ≠ 54) (h2 : e ≠ 48) (h3 : e ≠ 51) (h4 : e ≠ 3) (h5 : e ≠ 109) : OwnM w' base m q := by
  obtain ⟨a1, ⟨es, a2⟩, ns, a3⟩ := h
  exact ⟨compsOwn_kept a1 hg hc h2, ⟨es, a2.kept hg hc h1 h2 h3 h4⟩, ns, a3.kept hg hc h5 h4⟩
theorem OwnM.below {w w' : World} {base : Nat} {m : Ms} {q : Mq} (h : OwnM w base m q) (hb : Below w.heap.size w w') : OwnM w' base m q := by
  obtain ⟨a1, ⟨es, a2⟩, ns, a3⟩ := h
  exact ⟨a1.below hb, ⟨es, a2.below hb⟩, ns, a3.below hb⟩
theorem OwnE.mono {w : World} {base base' : Nat} {v : Value} {vs : List Ev} {es : List En} (h : OwnE w base v vs es) (hb : base' ≤ base) : OwnE w base' v vs es :=
  ⟨h.row.mono hb, h.len, fun i x s hx hs => (h.fit i x s hx hs).mono hb⟩
theorem OwnM.mono {w : World} {base base' : Nat} {m : Ms} {q : Mq} (h : OwnM w base m q) (hb : base' ≤ base) : OwnM w base' m q := by
  obtain ⟨a1, ⟨es, a2⟩, ns, a3⟩ := h
  exact ⟨a1.mono hb, ⟨es, a2.mono hb⟩, ns, a3.mono hb⟩
/-- The zero message. -/
def ms0 : Ms := ⟨0, 0, 0, 0, 0, 0, false, ⟨#[]⟩, 0, 0, [], [], []⟩
def mq0 : Mq := ⟨none, 0, none, 0, none, 0⟩
theorem bytes_head {s : ByteArray} {c : UInt8} (h0 : 0 < s.size) (hc : s[0] = c) : bytesOf s = c :: fromL s 1 := by
  have := from_cons h0
  rw [hc] at this
  rw [← this]
  simp [fromL, bytesOf]

end Go.Proofs.YtjmfjlffcopnnaaGreatDoor

namespace Go.Proofs.YtjmfjlffcopnnaaGreatDoor
open Go.RowKit
open Go.Proofs.YtjmfjlffcopnnaaGreatDoor.K (C RowC)

/-- A message that may be written over. -/
def SpM (w : World) (base : Nat) (m : Ms) (q : Mq) : Prop :=
  (m.es.length = 0 ∧ m.ns.length = 0 ∧ ∃ l, lyC.Own w base (.slice q.ep m.ed.length q.ec) l ∧ l.length ≤ 4096)
  ∨ (m.ed.length = 0 ∧ m.ns.length = 0 ∧ m.es.length ≤ 100000 ∧ ∃ B vs, SpE w base (.slice q.sp m.es.length q.sc) m.es.length B 0 vs ∧ ∀ j g, B j g → g < w.heap.size)
  ∨ (m.ed.length = 0 ∧ m.es.length = 0 ∧ m.ns.length ≤ 100000 ∧ ∃ vs, SpT w base (.slice q.np m.ns.length q.nc) m.ns.length vs ∧ ∀ x ∈ vs, x.kn ≤ 140737488355328)
theorem SpT.below {w w' : World} {base n : Nat} {v : Value} {vs : List Nv} (h : SpT w base v n vs) (hb : Below w.heap.size w w') : SpT w' base v n vs :=
  ⟨h.row.below hb, h.len, fun i x hx => by
    obtain ⟨l, hl⟩ := h.kids i x hx
    exact ⟨l, hl.below hb⟩, h.apart⟩
theorem SpM.later {w w' : World} {base : Nat} {m : Ms} {q : Mq} (h : SpM w base m q) (hb : Below w.heap.size w w') : SpM w' base m q := by
  rcases h with ⟨h1, h2, l, h3, h4⟩ | ⟨h1, h2, h3, B, vs, h4, h5⟩ | ⟨h1, h2, h3, vs, h4, h5⟩
  · exact .inl ⟨h1, h2, l, h3.below hb, h4⟩
  · exact .inr (.inl ⟨h1, h2, h3, B, vs, h4.later hb, fun j g e => Nat.lt_of_lt_of_le (h5 j g e) hb.size⟩)
  · exact .inr (.inr ⟨h1, h2, h3, vs, h4.below hb, h5⟩)

end Go.Proofs.YtjmfjlffcopnnaaGreatDoor

namespace Go.Proofs.YtjmfjlffcopnnaaGreatDoor
open Go.RowKit
open Go.Proofs.YtjmfjlffcopnnaaGreatDoor.K (C RowC)

theorem four_new {W : World} {b : Nat} (hb : W.heap.size = b) (x : Ev) : ∀ j u, (Ev.cells x)[j]? = some u → (W.alloc (.cells (Ev.cells x).toArray 54)).cell? ((⟨b, 0, none⟩ : Addr).add j) = some u := by
  intro j u hu
  subst hb
  rw [add_plain, Nat.zero_add, World.cell?_alloc_at _ _ _ _ rfl]
  simpa using hu

end Go.Proofs.YtjmfjlffcopnnaaGreatDoor

namespace Go.Proofs.YtjmfjlffcopnnaaGreatDoor
open Go.RowKit
open Go.Proofs.YtjmfjlffcopnnaaGreatDoor.K (C RowC)

/-- No longer than a computer's memory, in bytes. -/
structure MsB (m : Ms) : Prop where
  ed : m.ed.length * 32 ≤ 140737488355328
  es : m.es.length * 64 ≤ 140737488355328
  ns : m.ns.length * 56 ≤ 140737488355328
  tx : m.tx.size ≤ 140737488355328
  kids : ∀ x ∈ m.ns, x.kids.length * 8 ≤ 140737488355328
  each : ∀ e ∈ m.es, e.ed.length * 32 ≤ 140737488355328 ∧ e.dl.length * 64 ≤ 140737488355328 ∧ ∀ s ∈ e.dl, s.kids.length * 8 ≤ 140737488355328
theorem MsB.z {m : Ms} (h : MsB m) : MsZ m := by
  obtain ⟨h1, h2, h3, h4, h5, h6⟩ := h
  exact ⟨by omega, by omega, by omega, h4, fun x hx => by have := h5 x hx; omega, fun e he => by
    obtain ⟨a, b, c⟩ := h6 e he
    exact ⟨by omega, by omega, fun s hs => by have := c s hs; omega⟩⟩

end Go.Proofs.YtjmfjlffcopnnaaGreatDoor

namespace Go.Proofs.YtjmfjlffcopnnaaGreatDoor
open Go.RowKit

end Go.Proofs.YtjmfjlffcopnnaaGreatDoor

namespace Go.Proofs.YtjmfjlffcopnnaaGreatDoor
open Go.RowKit
open Go.Proofs.YtjmfjlffcopnnaaGreatDoor.K (C)

end Go.Proofs.YtjmfjlffcopnnaaGreatDoor

namespace Go.Proofs.YtjmfjlffcopnnaaGreatDoor
open Go.RowKit
open Go.Proofs.YtjmfjlffcopnnaaGreatDoor.K (C)

end Go.Proofs.YtjmfjlffcopnnaaGreatDoor

namespace Go.Proofs.YtjmfjlffcopnnaaGreatDoor
open Go.RowKit
open Go.Proofs.YtjmfjlffcopnnaaGreatDoor.K (C)

end Go.Proofs.YtjmfjlffcopnnaaGreatDoor

namespace Go.Proofs.YtjmfjlffcopnnaaGreatDoor
open Go.RowKit
open Go.Proofs.YtjmfjlffcopnnaaGreatDoor.K (C)

end Go.Proofs.YtjmfjlffcopnnaaGreatDoor

namespace Go.Proofs.YtjmfjlffcopnnaaGreatDoor
open Go.RowKit
open Go.Proofs.YtjmfjlffcopnnaaGreatDoor.K (C)

end Go.Proofs.YtjmfjlffcopnnaaGreatDoor

namespace Go.Proofs.YtjmfjlffcopnnaaGreatDoor
open Go.RowKit
open Go.Proofs.YtjmfjlffcopnnaaGreatDoor.K (C RowC)

theorem sameComps_true (pa pb : Option Addr) (cs : List C) (n ca cb : Nat) (hn : cs.length = n) (w : World) (ha : RowC w pa cs) (hb : RowC w pb cs) (hl : n ≤ 140737488355328) : Calls Tryz.prog 35 #[.slice pa n ca, .slice pb n cb] w (RetBelow (.returned (.bool true)) w) := by
  subst hn
  exact (K.same_any pa pb cs cs ca cb w ha hb hl).mono fun e w' h => by
    rcases h.2 with h2 | h2
    · exact ⟨h2.1, h.1⟩
    · exact absurd rfl h2.2

set_option maxRecDepth 100000 in
set_option maxHeartbeats 4000000 in
theorem sameEntries_true (pa pb : Option Addr) (es : List En) (n ca cb : Nat) (hn : es.length = n) (w : World) (ha : EntsR w pa es) (hb : EntsR w pb es) (hl : n ≤ 140737488355328) (hk : ∀ e ∈ es, e.ed.length ≤ 140737488355328 ∧ e.dl.length ≤ 140737488355328 ∧ ∀ s ∈ e.dl, s.kids.length ≤ 140737488355328) : Calls Tryz.prog 36 #[.slice pa n ca, .slice pb n cb] w (RetBelow (.returned (.bool true)) w) := by
  have RA := Lib.hid ha; have RB := Lib.hid hb; have HN := Lib.hid hn; have HK := Lib.hid hk
  clear ha hb hn hk
  go_enter Tryz.func36, Tryz.ntmps36
  go_wp2_with fail
  go_loopw [5] (fun v wr => ∃ i : Nat, i ≤ n ∧ v = .int .i64 i ∧ Hid (Below w.heap.size w wr)) (fun v _ => n - (intOf v).toNat)
  case atStart => exact ⟨0, by omega, rfl, Lib.hid (Below.refl _ _)⟩
  case round =>
    obtain ⟨i, hi, rfl, B⟩ := hrel
    by_cases hlt : i < n
    · obtain ⟨x, hx⟩ : ∃ x, es[i]? = some x := ⟨_, List.getElem?_eq_getElem (by rw [HN.out]; exact hlt)⟩
      obtain ⟨ab, ao, xp, xc, dp, dc, rfl, hat, hE, hS⟩ := RA.out i x hx
      obtain ⟨bb, bo, yp, yc, ep, ec, rfl, hat2, hE2, hS2⟩ := RB.out i x hx
      obtain ⟨z1, z2, z3⟩ := HK.out x (List.mem_of_getElem? hx)
      have m1 := hat.below B.out
      have m2 := hat2.below B.out
      have CE : Hid (∀ X : Ext wr, Calls Tryz.prog 35 #[.slice xp x.ed.length xc, .slice yp x.ed.length yc] X.w (RetBelow (.returned (.bool true)) X.w)) := Lib.hid (fun X => sameComps_true xp yp x.ed _ xc yc rfl X.w (rowC_below (rowC_below hE B.out) X.below) (rowC_below (rowC_below hE2 B.out) X.below) z1)
      have CS : Hid (∀ X : Ext wr, Calls Tryz.prog 85 #[.slice dp x.dl.length dc, .slice ep x.dl.length ec] X.w (RetBelow (.returned (.bool true)) X.w)) := Lib.hid (fun X => sameSteps_true dp ep x.dl _ dc ec rfl X.w ((hS.below B.out).below X.below) ((hS2.below B.out).below X.below) z2 z3)
      have c0 : wr.cell? ⟨ab, ao + i * 4, none⟩ = some (.int .i64 x.cl) := m1 0 _ rfl
      have c1 : wr.cell? ⟨ab, ao + i * 4 + 1, none⟩ = some (.int .i64 x.sq) := m1 1 _ rfl
      have c2 : wr.cell? ⟨ab, ao + i * 4 + 2, none⟩ = some (.slice xp x.ed.length xc) := m1 2 _ rfl
      have c3 : wr.cell? ⟨ab, ao + i * 4 + 3, none⟩ = some (.slice dp x.dl.length dc) := m1 3 _ rfl
      have d0 : wr.cell? ⟨bb, bo + i * 4, none⟩ = some (.int .i64 x.cl) := m2 0 _ rfl
      have d1 : wr.cell? ⟨bb, bo + i * 4 + 1, none⟩ = some (.int .i64 x.sq) := m2 1 _ rfl
      have d2 : wr.cell? ⟨bb, bo + i * 4 + 2, none⟩ = some (.slice yp x.ed.length yc) := m2 2 _ rfl
      have d3 : wr.cell? ⟨bb, bo + i * 4 + 3, none⟩ = some (.slice ep x.dl.length ec) := m2 3 _ rfl
      have x0 : ∀ X : Ext wr, X.w.cell? ⟨ab, ao + i * 4, none⟩ = some (.int .i64 x.cl) := fun X => X.cell c0
      have x1 : ∀ X : Ext wr, X.w.cell? ⟨ab, ao + i * 4 + 1, none⟩ = some (.int .i64 x.sq) := fun X => X.cell c1
      have x2 : ∀ X : Ext wr, X.w.cell? ⟨ab, ao + i * 4 + 2, none⟩ = some (.slice xp x.ed.length xc) := fun X => X.cell c2
      have x3 : ∀ X : Ext wr, X.w.cell? ⟨ab, ao + i * 4 + 3, none⟩ = some (.slice dp x.dl.length dc) := fun X => X.cell c3
      have y0 : ∀ X : Ext wr, X.w.cell? ⟨bb, bo + i * 4, none⟩ = some (.int .i64 x.cl) := fun X => X.cell d0
      have y1 : ∀ X : Ext wr, X.w.cell? ⟨bb, bo + i * 4 + 1, none⟩ = some (.int .i64 x.sq) := fun X => X.cell d1
      have y2 : ∀ X : Ext wr, X.w.cell? ⟨bb, bo + i * 4 + 2, none⟩ = some (.slice yp x.ed.length yc) := fun X => X.cell d2
      have y3 : ∀ X : Ext wr, X.w.cell? ⟨bb, bo + i * 4 + 3, none⟩ = some (.slice ep x.dl.length ec) := fun X => X.cell d3
      have hi0 : (0 : Int) ≤ (i : Int) := by omega
      have hi1 : (i : Int) < (n : Int) := by omega
      clear m1 m2 hat hat2 hE hE2 hS hS2 hx z1 z2 z3 c0 c1 c2 c3 d0 d1 d2 d3
      generalize x.ed.length = kn at *
      generalize x.dl.length = ln at *
      go_wp2_with fail
      refine wp_region_ext (by kernel_rfl) (by kernel_rfl) ?_
      repeat (go_big_quiet_step (first | (go_at_call 35; exact Ext.calls (CE.out _)) | (go_at_call 85; exact Ext.calls (CS.out _))))
      refine wpQuiet_nil ?_
      rintro _ ⟨X, rfl⟩
      clear x0 x1 x2 x3 y0 y1 y2 y3
      go_wp2_with fail
      go_roundw
      case rel => exact ⟨i + 1, by omega, by go_num, Lib.hid (B.out.trans (X.below.mono B.out.size))⟩
      case measure => simp [intOf]; omega
    · go_wp2_with fail
      go_ret
      exact ⟨rfl, B.out⟩

end Go.Proofs.YtjmfjlffcopnnaaGreatDoor

namespace Go.Proofs.YtjmfjlffcopnnaaGreatDoor
open Go.RowKit
open Go.Proofs.YtjmfjlffcopnnaaGreatDoor.K (C RowC)

set_option maxRecDepth 100000 in
set_option maxHeartbeats 4000000 in
theorem sameMsg_true (m : Ms) (q1 q2 : Mq) (w : World) (hz : MsZ m) (h1 : MsR w m q1) (h2 : MsR w m q2) : Calls Tryz.prog 11 #[msV m q1, msV m q2] w (RetBelow (.returned (.bool true)) w) := by
  have CE : Hid (∀ W, Bl w W → Calls Tryz.prog 35 #[.slice q1.ep m.ed.length q1.ec, .slice q2.ep m.ed.length q2.ec] W (RetBelow (.returned (.bool true)) W)) := Lib.hid (fun W hW => sameComps_true _ _ m.ed _ _ _ rfl W (rowC_below h1.ed hW) (rowC_below h2.ed hW) hz.ed)
  have CN : Hid (∀ W, Bl w W → Calls Tryz.prog 36 #[.slice q1.sp m.es.length q1.sc, .slice q2.sp m.es.length q2.sc] W (RetBelow (.returned (.bool true)) W)) := Lib.hid (fun W hW => sameEntries_true _ _ m.es _ _ _ rfl W (h1.es.below hW) (h2.es.below hW) hz.es hz.each)
  have CT : Hid (∀ W, Bl w W → Calls Tryz.prog 37 #[trV m.ro m.nx q1.np m.ns.length q1.nc, trV m.ro m.nx q2.np m.ns.length q2.nc] W (RetBelow (.returned (.bool true)) W)) := Lib.hid (fun W hW => sameTree_true m.ro m.nx q1.np q2.np m.ns m.ns.length q1.nc q2.nc rfl W (h1.ns.below hW) (h2.ns.below hW) hz.ns hz.kids)
  have hel := hz.ed
  have hsl := hz.es
  have hnl := hz.ns
  have htl := hz.tx
  clear hz h1 h2
  obtain ⟨kd, cl, rv, sq, fr, ls, rf, tx, ro, nx, ns, ed, es⟩ := m
  obtain ⟨ep, ec, sp, sc, np, nc⟩ := q1
  obtain ⟨ep2, ec2, sp2, sc2, np2, nc2⟩ := q2
  unfold msV
  unfold trV at CT
  dsimp only at *
  generalize ed.length = en at *
  generalize es.length = sn at *
  generalize ns.length = nn at *
  have X0 := Lib.hid (heap_alloc_new w (.cells #[.int .i64 kd, .int .i64 cl, .int .i64 rv, .int .i64 sq, .int .i64 fr, .int .i64 ls, .bool rf, .slice ep en ec, .slice sp sn sc, .string tx, .int .i64 ro, .int .i64 nx, .slice np nn nc] 28))
  generalize hb1 : (Obj.cells #[.int .i64 kd, .int .i64 cl, .int .i64 rv, .int .i64 sq, .int .i64 fr, .int .i64 ls, .bool rf, .slice ep en ec, .slice sp sn sc, .string tx, .int .i64 ro, .int .i64 nx, .slice np nn nc] 28) = ob1 at X0
  have X1 := fun ob2 => heap_old X0.out ob2
  have Y1 : ∀ cs, ((w.alloc ob1).alloc (.cells cs 28)).heap[w.heap.size + 1]? = some (.cells cs 28 (0, 0)) := fun cs => heap_new (by simp) cs 28
  have BA : ∀ ob2, Bl w ((w.alloc ob1).alloc ob2) := fun ob2 => Bl.alloc (Bl.alloc (Bl.refl w) _) _
  have Y2 := Lib.hid (Y1 #[.int .i64 kd, .int .i64 cl, .int .i64 rv, .int .i64 sq, .int .i64 fr, .int .i64 ls, .bool rf, .slice ep2 en ec2, .slice sp2 sn sc2, .string tx, .int .i64 ro, .int .i64 nx, .slice np2 nn nc2])
  have X2 := Lib.hid (X1 (.cells #[.int .i64 kd, .int .i64 cl, .int .i64 rv, .int .i64 sq, .int .i64 fr, .int .i64 ls, .bool rf, .slice ep2 en ec2, .slice sp2 sn sc2, .string tx, .int .i64 ro, .int .i64 nx, .slice np2 nn nc2] 28))
  have B2 := Lib.hid (BA (.cells #[.int .i64 kd, .int .i64 cl, .int .i64 rv, .int .i64 sq, .int .i64 fr, .int .i64 ls, .bool rf, .slice ep2 en ec2, .slice sp2 sn sc2, .string tx, .int .i64 ro, .int .i64 nx, .slice np2 nn nc2] 28))
  clear X1 Y1 BA X0
  subst hb1
  go_enter Tryz.func11, Tryz.ntmps11
  go_wp2_with (first | (go_at_call 35; refine (CE.out _ B2.out).mono ?_; rintro e w3 ⟨rfl, hb⟩; have B3 : Hid (Bl w w3) := Lib.hid (B2.out.trans (Below.mono hb B2.out.size)); have X3 := Lib.hid (heap_later X2.out hb); have Y3 := Lib.hid (heap_later Y2.out hb); have c8 := (obj_cells X3.out).1 8 _ rfl; have d8 := (obj_cells Y3.out).1 8 _ rfl; clear hb) | (go_at_call 36; refine (CN.out _ B3.out).mono ?_; rintro e w4 ⟨rfl, hb⟩; have B4 : Hid (Bl w w4) := Lib.hid (B3.out.trans (Below.mono hb B3.out.size)); have X4 := Lib.hid (heap_later X3.out hb); have Y4 := Lib.hid (heap_later Y3.out hb); have c10 := (obj_cells X4.out).1 10 _ rfl; have d10 := (obj_cells Y4.out).1 10 _ rfl; have c11 := (obj_cells X4.out).1 11 _ rfl; have d11 := (obj_cells Y4.out).1 11 _ rfl; have c12 := (obj_cells X4.out).1 12 _ rfl; have d12 := (obj_cells Y4.out).1 12 _ rfl; clear hb) | (go_at_call 37; refine (CT.out _ B4.out).mono ?_; rintro e w5 ⟨rfl, hb⟩; have B5 : Hid (Bl w w5) := Lib.hid (B4.out.trans (Below.mono hb B4.out.size)); clear hb))
  go_ret
  exact ⟨rfl, B5.out⟩

end Go.Proofs.YtjmfjlffcopnnaaGreatDoor

namespace Go.Proofs.YtjmfjlffcopnnaaGreatDoor
open Go.RowKit
open Go.Proofs.YtjmfjlffcopnnaaGreatDoor.K (C RowC MayP)

theorem may_ok {m : Ms} (h : MsMay m) : MsOk m := by
  obtain ⟨⟨a1, a2, a3, a4, a5, a6⟩, h⟩ := h
  have co : ∀ cs : List C, MayP cs → ∀ c ∈ cs, CpOk c := fun cs hc c hcc => by
    rcases (may_compsS hc).1 c hcc with ⟨h1, h2, _⟩ | ⟨h1, h2, h3⟩
    · exact .inl ⟨h1, h2⟩
    · exact .inr ⟨h1, h2.1, h3⟩
  refine ⟨a1, a3, a5, ?_⟩
  rcases h with ⟨h0, ⟨b1, b2, b3, b4, b5, b6, b7⟩, h1, h2, _⟩ | ⟨h0, ⟨b1, b2, b3, b4, b5, b6, b7⟩, h1, h2, h3, h4⟩ | ⟨h0, h1, h2, h3, _, h4, _, _, h5⟩
  · exact .inl ⟨h0, b1, b2, b3, b4, b5, b6, List.eq_nil_of_length_eq_zero b7, List.eq_nil_of_length_eq_zero h1, co _ h2⟩
  · refine .inr (.inl ⟨h0, h2, b1, b2, b3, b4, b5, b6, List.eq_nil_of_length_eq_zero b7, List.eq_nil_of_length_eq_zero h1, fun e he => ?_⟩)
    obtain ⟨s1, s2, s3, s4⟩ := may_entryS (h4 e he)
    exact ⟨s1.1, s2.1, co _ (h4 e he).2.2.2.2.1, fun s hs => by
      obtain ⟨t1, t2, t3, t4, t5, t6⟩ := s4.1 s hs
      exact ⟨t1.1, t2.1, t3.1, t4.1, t5.1, fun k hk => (t6.1 k hk).1⟩⟩
  · obtain ⟨c1, c2, c3, c4⟩ := may_nodesS h5
    exact .inr (.inr ⟨h0, h3, h4, c2.1, c3.1, List.eq_nil_of_length_eq_zero h2, List.eq_nil_of_length_eq_zero h1, fun x hx => by
      obtain ⟨⟨t1, t2, t3, t4, t5⟩, _⟩ := c4 x hx
      exact ⟨t1.1, t2.1, t3.1, t4.1, fun k hk => (t5.1 k hk).1⟩⟩)

/-- A message that Put packs. -/
def Goes (m : Ms) : Prop := MsMay m ∧ (msgC m []).length ≤ 1000000
open Classical in
noncomputable def putZ (m : Ms) : ByteArray := if Goes m then ⟨(msgC m []).toArray⟩ else ⟨#[]⟩
open Classical in
noncomputable def putE (m : Ms) : Int := if Goes m then 0 else 1700
/-- A text that is a message's. -/
def Is (s : ByteArray) (m : Ms) : Prop := MsMay m ∧ msgC m [] = bytesOf s ∧ s.size ≤ 1000000
open Classical in
noncomputable def getM (s : ByteArray) : Ms := if h : ∃ m, Is s m then h.choose else ms0
open Classical in
noncomputable def getE (s : ByteArray) : Int := if ∃ m, Is s m then 0 else 1700
theorem is_one {s : ByteArray} {m m' : Ms} (h : Is s m) (h' : Is s m') : m = m' := msg_inj (may_ok h.1) (may_ok h'.1) (h.2.1.trans h'.2.1.symm)
theorem getM_is {s : ByteArray} {m : Ms} (h : Is s m) : getM s = m ∧ getE s = 0 := by
  have he : ∃ m, Is s m := ⟨m, h⟩
  unfold getM getE
  rw [dif_pos he, if_pos he]
  exact ⟨is_one he.choose_spec h, rfl⟩
theorem getM_no {s : ByteArray} (h : ¬ ∃ m, Is s m) : getM s = ms0 ∧ getE s = 1700 := by
  unfold getM getE
  rw [dif_neg h, if_neg h]
  exact ⟨rfl, rfl⟩
theorem put_yes {m : Ms} (h : Goes m) : bytesOf (putZ m) = msgC m [] ∧ putE m = 0 ∧ Is (putZ m) m := by
  have e : putZ m = ⟨(msgC m []).toArray⟩ := by unfold putZ; rw [if_pos h]
  have e2 : bytesOf (putZ m) = msgC m [] := by rw [e]; simp [bytesOf]
  refine ⟨e2, by unfold putE; rw [if_pos h], h.1, e2.symm, ?_⟩
  rw [← bytes_len, e2]
  exact h.2
theorem put_not {m : Ms} (h : ¬ Goes m) : putZ m = ⟨#[]⟩ ∧ putE m = 1700 := by
  unfold putZ putE
  rw [if_neg h, if_neg h]
  exact ⟨rfl, rfl⟩
theorem goes_is {s : ByteArray} {m : Ms} (h : Is s m) : Goes m ∧ putZ m = s := by
  have hg : Goes m := ⟨h.1, by rw [h.2.1, bytes_len]; exact h.2.2⟩
  exact ⟨hg, bytes_inj ((put_yes hg).1.trans h.2.1)⟩

def PutD (m : Ms) (w : World) (e : Ending) (w' : World) : Prop := e = .returned (.tuple #[.string (putZ m), .int .i64 (putE m)]) ∧ Below w.heap.size w w'
theorem msR0 (w : World) : MsR w ms0 mq0 := ⟨fun i c h => by simp [ms0] at h, fun i c h => by simp [ms0] at h, fun i c h => by simp [ms0] at h⟩
/-- What the program's Get answers: a message that may be written over, too. -/
def GetW (s : ByteArray) (w : World) (e : Ending) (w' : World) : Prop := ∃ q, e = .returned (.tuple #[msV (getM s) q, .int .i64 (getE s)]) ∧ MsR w' (getM s) q ∧ SpM w' w.heap.size (getM s) q ∧ Below w.heap.size w w'
/-- strconv's table stands as it was laid. -/
def Tb (w : World) : Prop := Lib.TabIs Tryz.prog w "internal/strconv.uint64pow10" .u64 Lib.pow10Tab
theorem Tb.bl {w W : World} (h : Tb w) (hb : Below w.heap.size w W) : Tb W := (Lib.tabBelow_of_tabIs h) W hb
def PutPr : Prop := ∀ m q w, Tb w → MsZ m → MsR w m q → Calls Tryz.prog 6 #[msV m q] w (PutD m w)
def GetPr : Prop := ∀ (s : ByteArray) w, s.size ≤ 140737488355328 → Calls Tryz.prog 8 #[.string s] w (GetW s w)
open Classical in
def MayPr : Prop := ∀ m q w, MsZ m → MsR w m q → Calls Tryz.prog 12 #[msV m q] w (RetBelow (.returned (.bool (decide (MsMay m)))) w)
theorem ms0_z : MsZ ms0 := ⟨by decide, by decide, by decide, by decide, fun x hx => (by cases hx), fun x hx => (by cases hx)⟩
/-- What Get answers is no longer than a computer's memory. -/
theorem getM_z (s : ByteArray) : MsZ (getM s) := by
  by_cases h : ∃ m, Is s m
  · obtain ⟨m, h⟩ := h
    rw [(getM_is h).1]
    have h0 : 0 < s.size := by
      have := msg_ne m
      rw [h.2.1] at this
      rcases Nat.eq_zero_or_pos s.size with e | e
      · exact absurd (List.eq_nil_of_length_eq_zero (by rw [bytes_len]; exact e)) this
      · exact e
    have h1 := get_yes (bytes_head h0 rfl) h.1 h.2.1
    have h2 := msg_z s[0] (fromL s 1, false) (by show (fromL s 1).length ≤ 1000000; rw [from_len]; have := h.2.2; omega)
    rw [h1] at h2
    exact h2
  · rw [(getM_no h).1]
    exact ms0_z

end Go.Proofs.YtjmfjlffcopnnaaGreatDoor

namespace Go.Proofs.YtjmfjlffcopnnaaGreatDoor
open Go.RowKit

theorem gTab : Tryz.prog.globalNamed "internal/strconv.uint64pow10" = some 1 := by kernel_rfl
theorem gTabT : (Tryz.prog.globals[1]?).map (·.type) = some 180 := by kernel_rfl
abbrev laid3 : List (String × DataW Unit) := [("math/bits.deBruijn32tab", Rows.laid_math_bits_deBruijn32tab), ("math/bits.deBruijn64tab", Rows.laid_math_bits_deBruijn64tab), ("internal/strconv.uint64pow10", Rows.laid_internal_strconv_uint64pow10)]
theorem tab_laid {W : World} (h : laidMetH Tryz.prog laid3 W) : Tb W := by
  rw [MakeChecks.laidMetH_plain _ _ _ (by kernel_rfl)] at h
  have h3 : laidMet Tryz.prog [("internal/strconv.uint64pow10", Lib.tabData .u64 Lib.pow10Tab)] W := h.tail.tail
  exact Lib.tabIs_of_head gTab gTabT Tryz.underlying180 Tryz.underlying151 (by kernel_rfl) (by kernel_rfl) h3
theorem door_met (os : Os) (args : Array Value) : laidMetH Tryz.prog laid3 ((World.doorLaid Tryz.prog 400 os).forCall (fun _ _ => 0) ⟨#[], args, []⟩).memory :=
  laidMetH_of_parts3 (fuel := 8) (laidMet_of_run' 8 (by kernel_rfl) (by kernel_rfl)) (by kernel_rfl) (by kernel_rfl)

end Go.Proofs.YtjmfjlffcopnnaaGreatDoor

namespace Go.Proofs.YtjmfjlffcopnnaaGreatDoor
open Go.ChangeShapes Go.WideShapes Go.ChangeAt Go.RowKit Go.Deep
theorem reach47 : reachBytes + 4096 ≤ 140737488355328 := by decide
end Go.Proofs.YtjmfjlffcopnnaaGreatDoor

namespace Go.Proofs.YtjmfjlffcopnnaaGreatDoor
open Go.RowKit
open Go.Proofs.YtjmfjlffcopnnaaGreatDoor.K (C RowC MayP)

theorem place_lt (a : Int) (n : Nat) (h0 : 0 < n) (hn : n ≤ 1000000) : ∃ q : Nat, wrap64 ((IntKind.u64.wrap a).tmod (n : Int)) = (q : Int) ∧ q < n := by
  have h1 : 0 ≤ IntKind.u64.wrap a := by
    unfold IntKind.wrap
    simp only [IntKind.signed, Bool.false_and]
    exact Int.emod_nonneg _ (by decide)
  have h2 : 0 ≤ (IntKind.u64.wrap a).tmod (n : Int) := Int.tmod_nonneg _ h1
  have h3 : (IntKind.u64.wrap a).tmod (n : Int) < (n : Int) := Int.tmod_lt_of_pos _ (by omega)
  refine ⟨((IntKind.u64.wrap a).tmod (n : Int)).toNat, ?_, by omega⟩
  rw [IntWalk.wrap64_in _ (by omega)]
  omega
/-- What Get answers at a text that is no message's. -/
def GetN (w : World) (e : Ending) (w' : World) : Prop := ∃ q : Mq, e = .returned (.tuple #[.agg #[.int .i64 0, .int .i64 0, .int .i64 0, .int .i64 0, .int .i64 0, .int .i64 0, .bool false, .slice q.ep 0 q.ec, .slice q.sp 0 q.sc, .string ⟨#[]⟩, .int .i64 0, .int .i64 0, .slice q.np 0 q.nc], .int .i64 1700]) ∧ MsR w' ms0 q ∧ Below w.heap.size w w'
theorem getN_of {s : ByteArray} {w : World} {e : Ending} {w' : World} (h : GetW s w e w') (hn : getM s = ms0 ∧ getE s = 1700) : GetN w e w' := by
  obtain ⟨q, rfl, h1, _, h3⟩ := h
  rw [hn.1] at h1
  exact ⟨q, by rw [hn.1, hn.2]; rfl, h1, h3⟩

end Go.Proofs.YtjmfjlffcopnnaaGreatDoor

namespace Go.Proofs.YtjmfjlffcopnnaaGreatDoor
open Go.RowKit
open Go.Proofs.YtjmfjlffcopnnaaGreatDoor.K (C RowC MayP)

/-- What Get answers at a message's text. -/
def GetI (m : Ms) (w : World) (e : Ending) (w' : World) : Prop := ∃ q : Mq, e = .returned (.tuple #[.agg #[.int .i64 m.kd, .int .i64 m.cl, .int .i64 m.rv, .int .i64 m.sq, .int .i64 m.fr, .int .i64 m.ls, .bool m.rf, .slice q.ep m.ed.length q.ec, .slice q.sp m.es.length q.sc, .string m.tx, .int .i64 m.ro, .int .i64 m.nx, .slice q.np m.ns.length q.nc], .int .i64 0]) ∧ MsR w' m q ∧ Below w.heap.size w w'
theorem getI_of {s : ByteArray} {m : Ms} {w : World} {e : Ending} {w' : World} (h : GetW s w e w') (hn : Is s m) : GetI m w e w' := by
  obtain ⟨q, rfl, h1, _, h3⟩ := h
  obtain ⟨e1, e2⟩ := getM_is hn
  rw [e1] at h1
  exact ⟨q, by rw [e1, e2]; rfl, h1, h3⟩

end Go.Proofs.YtjmfjlffcopnnaaGreatDoor
