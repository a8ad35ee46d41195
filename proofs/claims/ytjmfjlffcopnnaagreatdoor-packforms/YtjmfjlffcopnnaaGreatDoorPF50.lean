/-
  Qh, Qj, in one text. Conditions: as each theorem's premises say.
-/
import Derived.Test.YtjmfjlffcopnnaaGreatDoorPF49
import Derived.Test.YtjmfjlffcopnnaaGreatDoorPF23
import Derived.Test.YtjmfjlffcopnnaaGreatDoorPF44
namespace Go.Proofs.YtjmfjlffcopnnaaGreatDoor
open Go.RowKit
open Go.Proofs.YtjmfjlffcopnnaaGreatDoor.K (C RowC MayP)

/-- What is read off a text, and what that says of messages. -/
theorem qms_z {m : Ms} (h : QMs m) : MsZ m := by
  obtain ⟨_, _, h⟩ := h
  have nil : ∀ {α : Type} {l : List α}, l = [] → l.length ≤ 140737488355328 := fun e => by rw [e]; exact Nat.zero_le _
  rcases h with ⟨_, _, _, _, _, h5, _, _, h8, h9, h10⟩ | ⟨_, _, _, _, _, h5, _, _, h8, h9, h10⟩ | ⟨_, _, _, _, h5, h6, h7, h8⟩
  · exact ⟨by have := h10.2; omega, nil h9, nil h8, (by rw [h5]; decide), (by rw [h8]; intro x hx; cases hx), (by rw [h9]; intro x hx; cases hx)⟩
  · refine ⟨nil h9, by have := h10.2; omega, nil h8, (by rw [h5]; decide), (by rw [h8]; intro x hx; cases hx), fun e he => ?_⟩
    obtain ⟨_, _, e3, e4⟩ := h10.1 e he
    exact ⟨by have := e3.2; omega, by have := e4.2; omega, fun s hs => by have := (e4.1 s hs).2.2.2.2.2.2; omega⟩
  · obtain ⟨_, _, h9⟩ := h6
    refine ⟨nil h7, nil h8, by have := h9.2; dsimp only at this; omega, by unfold QStrP at h5; omega, fun x hx => ?_, (by rw [h8]; intro x hx; cases hx)⟩
    have := (h9.1 x hx).2.2.2.2.2
    omega
theorem QOwn.read {w : World} {base : Nat} {m : Ms} {q : Mq} (h : QOwn w base m q) : MsR w m q := by
  obtain ⟨h1, ⟨es, h2⟩, ns, h3⟩ := h
  exact ⟨own_rowC h1, h2.own.read, h3.read⟩
theorem QOwn.below {w w' : World} {base : Nat} {m : Ms} {q : Mq} (h : QOwn w base m q) (hb : Below w.heap.size w w') : QOwn w' base m q := by
  obtain ⟨h1, ⟨es, h2⟩, ns, h3⟩ := h
  exact ⟨h1.below hb, ⟨es, h2.below hb⟩, ns, h3.below hb⟩
theorem QOwn.mono {w : World} {base base' : Nat} {m : Ms} {q : Mq} (h : QOwn w base m q) (hb : base' ≤ base) : QOwn w base' m q := by
  obtain ⟨h1, ⟨es, h2⟩, ns, h3⟩ := h
  exact ⟨h1.mono hb, ⟨es, h2.mono hb⟩, ns, h3.mono hb⟩

/-! What may be is read -/
theorem nu_small {x : Int} (h0 : 0 ≤ x) (h1 : x ≤ 16777216) : NuP x := ⟨h0, h1⟩
theorem may_nodesQ {ns : List Nd} {root next size : Int} (h : mayB ns root next size = true) : TrP (root, next, ns) := by
  have Cm := mayC_is.1 h
  have hid : ∀ x ∈ ns, NuP x.id := fun x hx => by
    have hn := nodeOk_is.1 (Cm.node x hx)
    have := Cm.next1
    exact nu_small hn.1.1 (by omega)
  have h4 := (may_nodesS h).2.2.2
  obtain ⟨y, hy, _, hyr, _⟩ := root_node Cm
  refine ⟨by dsimp only; rw [← hyr]; exact hid y hy, nu_small Cm.next0 Cm.next1, fun x hx => ?_, by have := Cm.few; dsimp only; omega⟩
  have hn := nodeOk_is.1 (Cm.node x hx)
  have hs := Cm.size1
  refine ⟨hid x hx, nu_small hn.2.1 (by omega), nu_small hn.2.2.2.1 (by omega), nu_small (by omega) (by omega), fun c hc => ?_, by have := (h4 x hx).2; omega⟩
  obtain ⟨_, _, z, hz, hzc⟩ := kids_once Cm hx hc
  rw [← hzc]
  exact hid z hz
theorem idB_nu {i : Int} (h : idB i = true) : NuP i := by
  unfold idB at h
  simp only [Bool.and_eq_true, decide_eq_true_eq] at h
  exact nu_small h.1 (by omega)
theorem stpQ {kd id nd fr tt : Int} {ks : List Int} (a : NuP kd) (b : NuP id) (c : NuP nd) (d : NuP fr) (e : NuP tt) (f : ∀ k ∈ ks, NuP k) (g : ks.length ≤ 2048) : QSt ⟨kd, id, nd, fr, tt, ks⟩ := ⟨a, b, c, d, e, f, Nat.le_trans g (by decide)⟩
theorem may_stepQ {s : St} (h : stepMay s = true) : QSt s := by
  unfold stepMay at h
  simp only [Bool.and_eq_true, Bool.or_eq_true, beq_iff_eq, decide_eq_true_eq, List.isEmpty_iff, List.all_eq_true] at h
  obtain ⟨hi, h⟩ := h
  have z : NuP 0 := nu_small (Int.le_refl _) (by decide)
  have hid := idB_nu hi
  obtain ⟨kd, id, nd, fr, tt, ks⟩ := s
  dsimp only at *
  rcases h with ((⟨⟨⟨⟨rfl, rfl⟩, rfl⟩, rfl⟩, rfl⟩ | ⟨⟨⟨⟨⟨rfl, h1⟩, h2⟩, rfl⟩, rfl⟩, rfl⟩) | ⟨⟨⟨⟨⟨rfl, rfl⟩, rfl⟩, rfl⟩, h5⟩, h6⟩) | ⟨⟨⟨⟨⟨rfl, rfl⟩, h3⟩, h4⟩, h5⟩, rfl⟩
  · exact stpQ z hid z z z no_kids (by simp)
  · exact stpQ (nu_small (by decide) (by decide)) hid (nu_small h1 (by omega)) z z no_kids (by simp)
  · exact stpQ (nu_small (by decide) (by decide)) hid z z z (fun k hk => idB_nu (h5 k hk)) h6
  · exact stpQ (nu_small (by decide) (by decide)) hid z (nu_small h3 (by omega)) (nu_small (by omega) (by omega)) no_kids (by simp)
theorem may_compsQ {cs : List C} (h : MayP cs) : LiP QCp cs := by
  obtain ⟨h1, h2, _⟩ := K.okB_iff.1 h.1
  refine ⟨fun c hc => ?_, by omega⟩
  rcases h2 c hc with ⟨hk, h0, hn, ht⟩ | ⟨hk, hn, ht⟩
  · refine .inr ⟨hk, ⟨h0, by omega⟩, ?_⟩
    apply ByteArray.ext
    exact Array.eq_empty_of_size_eq_zero ht
  · exact .inl ⟨hk, hn, by unfold QStrP; omega⟩
theorem may_entryQ {e : En} (h : EnMay e) : QEn e := by
  obtain ⟨a1, a2, a3, a4, a5, a6, a7⟩ := h
  exact ⟨nu_small a1 (by omega), nu_small (by omega) (by omega), may_compsQ a5, fun s hs => may_stepQ (a7 s hs), by omega⟩
theorem may_msQ {m : Ms} (h : MsMay m) : QMs m := by
  obtain ⟨⟨a1, a2, a3, a4, a5, a6⟩, h⟩ := h
  refine ⟨nu_small a1 (by omega), nu_small a3 (by omega), ?_⟩
  have nil : ∀ {α : Type} {l : List α}, l.length = 0 → l = [] := fun e => List.eq_nil_of_length_eq_zero e
  rcases h with ⟨h0, ⟨b1, b2, b3, b4, b5, b6, b7⟩, h1, h2, _⟩ | ⟨h0, ⟨b1, b2, b3, b4, b5, b6, b7⟩, h1, h2, h3, h4⟩ | ⟨h0, h1, h2, h3, h4, h5, h6, h7, h8⟩
  · exact .inl ⟨h0, nu_small a5 (by omega), b1, b2, b3, b4, b5, b6, nil b7, nil h1, may_compsQ h2⟩
  · exact .inr (.inl ⟨h0, h2, b1, b2, b3, b4, b5, b6, nil b7, nil h1, fun e he => may_entryQ (h4 e he), by omega⟩)
  · exact .inr (.inr ⟨h0, nu_small a5 (by omega), nu_small h3 (by omega), nu_small h5 (by omega), by unfold QStrP; omega, may_nodesQ h8, nil h2, nil h1⟩)

/-! What Get answers -/
theorem spm_of {w : World} {base : Nat} {m : Ms} {q : Mq} (h : QOwn w base m q) (hm : MsMay m) : SpM w base m q := by
  obtain ⟨h1, ⟨vs, h2⟩, us, h3⟩ := h
  rcases hm.2 with ⟨_, ⟨_, _, _, _, _, _, b7⟩, a1, a2, _⟩ | ⟨_, ⟨_, _, _, _, _, _, b7⟩, a1, _, a3, a4⟩ | ⟨_, a1, a2, _, _, _, _, _, a8⟩
  · exact .inl ⟨a1, b7, m.ed, h1, (may_comps a2).1⟩
  · refine .inr (.inl ⟨a1, b7, by omega, ?_⟩)
    obtain ⟨own, B, c1, c2, c3, c4, c5⟩ := h2
    have el : ∀ (j : Nat) x, vs[j]? = some x → ∃ e, m.es[j]? = some e := fun j x hx => ⟨_, List.getElem?_eq_getElem (by rw [← own.len]; exact (List.getElem?_eq_some_iff.1 hx).1)⟩
    refine ⟨B, vs, ⟨own.row, own.len, fun j x _ hx => ?_, fun j x _ hx => ?_, c3, fun j g hg => (c4 j g hg).1, c5⟩, fun j g hg => (c4 j g hg).2⟩
    · obtain ⟨e, he⟩ := el j x hx
      exact ⟨⟨e.ed, (own.fit j x e hx he).2.2.1, (may_comps (a4 e (List.mem_of_getElem? he)).2.2.2.2.1).1⟩, fun g hg => c1 j x g hx hg⟩
    · obtain ⟨e, he⟩ := el j x hx
      obtain ⟨us', d1, d2, d3⟩ := c2 j x e hx he
      have hdn : x.dn = e.dl.length := by
        obtain ⟨p, c, e2⟩ := d1.own.row.form
        have := (Value.slice.inj e2).2.1
        rw [this, d1.own.len]
      have hen := a4 e (List.mem_of_getElem? he)
      refine ⟨us', d1.sp, by rw [hdn]; have := hen.2.2.2.2.2.1; omega, fun y hy => ⟨?_, fun g hg => d2 y hy g hg⟩, fun g hg => d3 g hg⟩
      obtain ⟨s, hs, hk⟩ := d1.kn hy
      have := (may_step (hen.2.2.2.2.2.2 s hs)).2
      omega
  · have hn := may_nodes a8
    refine .inr (.inr ⟨a2, a1, by omega, us, h3.spt, fun x hx => ?_⟩)
    have := h3.kn (b := 2048) (fun s hs => (hn.2.2.2 s hs).2) x hx
    omega
theorem gq_no {s : ByteArray} {w u : World} {rb : Nat} (us : List Value) (hn : ¬ ∃ m, Is s m) (hb : Bl w u) (hr : w.heap.size ≤ rb) : GetW s w (.returned (.tuple #[.agg #[.int .i64 0, .int .i64 0, .int .i64 0, .int .i64 0, .int .i64 0, .int .i64 0, .bool false, .slice none 0 0, .slice none 0 0, .string ⟨#[]⟩, .int .i64 0, .int .i64 0, .slice none 0 0], .int .i64 1700])) (setAll u rb 0 us) := by
  obtain ⟨e1, e2⟩ := getM_no hn
  refine ⟨mq0, by rw [e1, e2]; rfl, by rw [e1]; exact msR0 _, by rw [e1]; exact .inl ⟨rfl, rfl, [], Ly.Own.nil _ _, by decide⟩, ?_⟩
  exact hb.trans (below_grown (setAll_one u rb 0 us) hr hb.size)
theorem gq_yes {s : ByteArray} {w u : World} {rb : Nat} {m : Ms} {q : Mq} {c : Array Value} (us : List Value) (his : Is s m) (ho : QOwn u w.heap.size m q) (R : u.heap[rb]? = some (.cells c 28 (0, 0))) (hb : Bl w u) (hr : w.heap.size ≤ rb) : GetW s w (.returned (.tuple #[msV m q, .int .i64 0])) (setAll u rb 0 us) := by
  obtain ⟨e1, e2⟩ := getM_is his
  have g2 := setAll_one u rb 0 us
  have ho2 := ho.kept g2 R (by decide) (by decide) (by decide) (by decide) (by decide)
  exact ⟨q, by rw [e1, e2], by rw [e1]; exact ho2.read, by rw [e1]; exact spm_of ho2 his.1, hb.trans (below_grown g2 hr hb.size)⟩
theorem is_bad {s : ByteArray} {m : Ms} {l : List UInt8} (h : Took QMs msgC (bytesOf s) false m l true) : ¬ ∃ m, Is s m := by
  rcases h.2 rfl with h | h
  · cases h
  · rintro ⟨m0, h1, h2, _⟩
    exact h ⟨m0, [], may_msQ h1, h2.symm⟩
theorem is_left {s : ByteArray} {m : Ms} {l : List UInt8} (h : Took QMs msgC (bytesOf s) false m l false) (hl : l ≠ []) : ¬ ∃ m, Is s m := by
  obtain ⟨_, hm, he⟩ := h.1 rfl
  rintro ⟨m0, h1, h2, _⟩
  exact hl (ms_ur _ _ _ _ hm (may_msQ h1) (he.symm.trans h2.symm)).2
theorem is_not {s : ByteArray} {m : Ms} (h : Took QMs msgC (bytesOf s) false m [] false) (hn : ¬ MsMay m) : ¬ ∃ m, Is s m := by
  obtain ⟨_, hm, he⟩ := h.1 rfl
  rintro ⟨m0, h1, h2, _⟩
  have := (ms_ur _ _ _ _ hm (may_msQ h1) (he.symm.trans h2.symm)).1
  exact hn (this ▸ h1)
theorem is_yes {s : ByteArray} {m : Ms} (h : Took QMs msgC (bytesOf s) false m [] false) (hn : MsMay m) (hs : s.size ≤ 1000000) : Is s m := ⟨hn, (h.1 rfl).2.2.symm, hs⟩

end Go.Proofs.YtjmfjlffcopnnaaGreatDoor

namespace Go.Proofs.YtjmfjlffcopnnaaGreatDoor
open Go.RowKit
open Go.Proofs.YtjmfjlffcopnnaaGreatDoor.K (C RowC MayP)

set_option maxRecDepth 100000 in
set_option maxHeartbeats 8000000 in
/-- The program's Get, at every text. -/
theorem qget_any (s : ByteArray) (w : World) (hs : s.size ≤ 140737488355328) : Calls Tryz.prog 8 #[.string s] w (GetW s w) := by
  go_enter Tryz.func8, Tryz.ntmps8
  go_upto_region 1 with fail
  have R0 : Hid ((w.alloc (.cells #[.int .i64 0, .int .i64 0, .int .i64 0, .int .i64 0, .int .i64 0, .int .i64 0, .bool false, .slice none 0 0, .slice none 0 0, .string ⟨#[]⟩, .int .i64 0, .int .i64 0, .slice none 0 0] 28)).heap[w.heap.size]? = some (.cells #[.int .i64 0, .int .i64 0, .int .i64 0, .int .i64 0, .int .i64 0, .int .i64 0, .bool false, .slice none 0 0, .slice none 0 0, .string ⟨#[]⟩, .int .i64 0, .int .i64 0, .slice none 0 0] 28 (0, 0))) := Lib.hid (heap_alloc_new w _)
  have B0 : Hid (Bl w (w.alloc (.cells #[.int .i64 0, .int .i64 0, .int .i64 0, .int .i64 0, .int .i64 0, .int .i64 0, .bool false, .slice none 0 0, .slice none 0 0, .string ⟨#[]⟩, .int .i64 0, .int .i64 0, .slice none 0 0] 28))) := Lib.hid (Bl.alloc (Bl.refl w) _)
  have S0 : Hid (w.heap.size < (w.alloc (.cells #[.int .i64 0, .int .i64 0, .int .i64 0, .int .i64 0, .int .i64 0, .int .i64 0, .bool false, .slice none 0 0, .slice none 0 0, .string ⟨#[]⟩, .int .i64 0, .int .i64 0, .slice none 0 0] 28)).heap.size) := Lib.hid (by simp)
  generalize w.alloc (.cells #[.int .i64 0, .int .i64 0, .int .i64 0, .int .i64 0, .int .i64 0, .int .i64 0, .bool false, .slice none 0 0, .slice none 0 0, .string ⟨#[]⟩, .int .i64 0, .int .i64 0, .slice none 0 0] 28) = w0 at R0 B0 S0 ⊢
  generalize hrb : w.heap.size = rb at R0 S0 ⊢
  have RB : Hid (w.heap.size ≤ rb) := Lib.hid (by omega)
  clear hrb
  by_cases q0 : s.size ≤ 1000000
  case neg =>
    have k0 : decide ((1000000 : Int) < (s.size : Int)) = true := decide_eq_true (by omega)
    have RX := R0; have BX := B0
    have r0 := (obj_cells RX.out).1 0 _ rfl
    have r1 := (obj_cells RX.out).1 1 _ rfl
    have r2 := (obj_cells RX.out).1 2 _ rfl
    have r3 := (obj_cells RX.out).1 3 _ rfl
    have r4 := (obj_cells RX.out).1 4 _ rfl
    have r5 := (obj_cells RX.out).1 5 _ rfl
    have r6 := (obj_cells RX.out).1 6 _ rfl
    have r7 := (obj_cells RX.out).1 7 _ rfl
    have r8 := (obj_cells RX.out).1 8 _ rfl
    have r9 := (obj_cells RX.out).1 9 _ rfl
    have r10 := (obj_cells RX.out).1 10 _ rfl
    have r11 := (obj_cells RX.out).1 11 _ rfl
    have r12 := (obj_cells RX.out).1 12 _ rfl
    have rf_ := (obj_cells RX.out).2.1
    have NO : Hid (GetW s w _ (setAll w0 rb 0 [.int .i64 0, .int .i64 0, .int .i64 0, .int .i64 0, .int .i64 0, .int .i64 0, .bool false, .slice none 0 0, .slice none 0 0, .string ⟨#[]⟩, .int .i64 0, .int .i64 0, .slice none 0 0])) := Lib.hid (gq_no (rb := rb) [.int .i64 0, .int .i64 0, .int .i64 0, .int .i64 0, .int .i64 0, .int .i64 0, .bool false, .slice none 0 0, .slice none 0 0, .string ⟨#[]⟩, .int .i64 0, .int .i64 0, .slice none 0 0] (fun ⟨m, h⟩ => q0 h.2.2) BX.out RB.out)
    go_wp2_with fail
    refine bodyPost_ret (v := .tuple #[.agg #[.int .i64 0, .int .i64 0, .int .i64 0, .int .i64 0, .int .i64 0, .int .i64 0, .bool false, .slice none 0 0, .slice none 0 0, .string ⟨#[]⟩, .int .i64 0, .int .i64 0, .slice none 0 0], .int .i64 1700]) (by rw [results_cell_tmp rfl]; go_simp) rfl ?_
    exact NO.out
  have k0 : decide ((1000000 : Int) < (s.size : Int)) = false := decide_eq_false (by omega)
  have Q0 := Lib.hid q0
  go_upto_region 4 with fail
  have T1 : Hid (TkP (w0.alloc (.cells #[.string s, .bool false] 70)) w0.heap.size s false) := Lib.hid ⟨heap_alloc_new w0 _, q0, fun e => by cases e⟩
  have B1 : Hid (Bl w (w0.alloc (.cells #[.string s, .bool false] 70))) := Lib.hid (Bl.alloc B0.out _)
  have R1 : Hid ((w0.alloc (.cells #[.string s, .bool false] 70)).heap[rb]? = some (.cells #[.int .i64 0, .int .i64 0, .int .i64 0, .int .i64 0, .int .i64 0, .int .i64 0, .bool false, .slice none 0 0, .slice none 0 0, .string ⟨#[]⟩, .int .i64 0, .int .i64 0, .slice none 0 0] 28 (0, 0))) := Lib.hid (heap_later R0.out (Bl.alloc (Bl.refl w0) _))
  have NT : Hid (rb ≠ w0.heap.size) := Lib.hid (by have := S0.out; omega)
  have TB : Hid (w.heap.size ≤ w0.heap.size) := Lib.hid B0.out.size
  clear q0 R0 B0 S0
  generalize w0.alloc (.cells #[.string s, .bool false] 70) = w1 at T1 B1 R1 ⊢
  generalize w0.heap.size = tb at T1 NT TB ⊢
  have ON := Lib.hid (qmsg_any s tb false w1 T1.out)
  go_upto_region 5 with (go_at_call 28; refine ON.out.mono ?_; rintro e w2 ⟨⟨kd, cl, rv, sq, fr, ls, rf, tx, ro, nx, ns, ed, es⟩, ⟨ep, ec, sp, sc, np, nc⟩, z2, b2, rfl, hk, ho, hT, hg⟩; unfold msV; dsimp only; have K2 := Lib.hid hk; have O2 := Lib.hid ho; have T2 := Lib.hid hT; have G2 := Lib.hid hg; clear hk ho hT hg)
  clear ON
  have X3 : Hid ((w2.alloc (.cells #[.int .i64 kd, .int .i64 cl, .int .i64 rv, .int .i64 sq, .int .i64 fr, .int .i64 ls, .bool rf, .slice ep ed.length ec, .slice sp es.length sc, .string tx, .int .i64 ro, .int .i64 nx, .slice np ns.length nc] 28)).heap[w2.heap.size]? = some (.cells #[.int .i64 kd, .int .i64 cl, .int .i64 rv, .int .i64 sq, .int .i64 fr, .int .i64 ls, .bool rf, .slice ep ed.length ec, .slice sp es.length sc, .string tx, .int .i64 ro, .int .i64 nx, .slice np ns.length nc] 28 (0, 0))) := Lib.hid (heap_alloc_new w2 _)
  have B2 : Hid (Bl w w2) := Lib.hid (B1.out.trans (below_grownN G2.out (fun g e => by cases e; exact TB.out) B1.out.size))
  have B3 : Hid (Bl w (w2.alloc (.cells #[.int .i64 kd, .int .i64 cl, .int .i64 rv, .int .i64 sq, .int .i64 fr, .int .i64 ls, .bool rf, .slice ep ed.length ec, .slice sp es.length sc, .string tx, .int .i64 ro, .int .i64 nx, .slice np ns.length nc] 28))) := Lib.hid (Bl.alloc B2.out _)
  have R3 : Hid ((w2.alloc (.cells #[.int .i64 kd, .int .i64 cl, .int .i64 rv, .int .i64 sq, .int .i64 fr, .int .i64 ls, .bool rf, .slice ep ed.length ec, .slice sp es.length sc, .string tx, .int .i64 ro, .int .i64 nx, .slice np ns.length nc] 28)).heap[rb]? = some (.cells #[.int .i64 0, .int .i64 0, .int .i64 0, .int .i64 0, .int .i64 0, .int .i64 0, .bool false, .slice none 0 0, .slice none 0 0, .string ⟨#[]⟩, .int .i64 0, .int .i64 0, .slice none 0 0] 28 (0, 0))) := Lib.hid (heap_later (box_keptP R1.out G2.out NT.out) (Bl.alloc (Bl.refl w2) _))
  have T3 : Hid (TkP (w2.alloc (.cells #[.int .i64 kd, .int .i64 cl, .int .i64 rv, .int .i64 sq, .int .i64 fr, .int .i64 ls, .bool rf, .slice ep ed.length ec, .slice sp es.length sc, .string tx, .int .i64 ro, .int .i64 nx, .slice np ns.length nc] 28)) tb z2 b2) := Lib.hid (T2.out.kept (World.grownBy_alloc w2 _ none) (fun g e => by cases e))
  have O3 : Hid (QOwn (w2.alloc (.cells #[.int .i64 kd, .int .i64 cl, .int .i64 rv, .int .i64 sq, .int .i64 fr, .int .i64 ls, .bool rf, .slice ep ed.length ec, .slice sp es.length sc, .string tx, .int .i64 ro, .int .i64 nx, .slice np ns.length nc] 28)) w.heap.size ⟨kd, cl, rv, sq, fr, ls, rf, tx, ro, nx, ns, ed, es⟩ ⟨ep, ec, sp, sc, np, nc⟩) := Lib.hid ((O2.out.below (Bl.alloc (Bl.refl w2) _)).mono B1.out.size)
  clear T1 B1 R1 T2 G2 O2 B2
  generalize w2.alloc (.cells #[.int .i64 kd, .int .i64 cl, .int .i64 rv, .int .i64 sq, .int .i64 fr, .int .i64 ls, .bool rf, .slice ep ed.length ec, .slice sp es.length sc, .string tx, .int .i64 ro, .int .i64 nx, .slice np ns.length nc] 28) = w3 at X3 B3 R3 T3 O3 ⊢
  generalize w2.heap.size = xb at X3 ⊢
  have t1 := (obj_cells T3.out.obj).1 1 _ rfl
  have t0 := (obj_cells T3.out.obj).1 0 _ rfl
  cases b2 with
  | true =>
    have RX := R3; have BX := B3
    have r0 := (obj_cells RX.out).1 0 _ rfl
    have r1 := (obj_cells RX.out).1 1 _ rfl
    have r2 := (obj_cells RX.out).1 2 _ rfl
    have r3 := (obj_cells RX.out).1 3 _ rfl
    have r4 := (obj_cells RX.out).1 4 _ rfl
    have r5 := (obj_cells RX.out).1 5 _ rfl
    have r6 := (obj_cells RX.out).1 6 _ rfl
    have r7 := (obj_cells RX.out).1 7 _ rfl
    have r8 := (obj_cells RX.out).1 8 _ rfl
    have r9 := (obj_cells RX.out).1 9 _ rfl
    have r10 := (obj_cells RX.out).1 10 _ rfl
    have r11 := (obj_cells RX.out).1 11 _ rfl
    have r12 := (obj_cells RX.out).1 12 _ rfl
    have rf_ := (obj_cells RX.out).2.1
    have NO : Hid (GetW s w _ (setAll w3 rb 0 [.int .i64 0, .int .i64 0, .int .i64 0, .int .i64 0, .int .i64 0, .int .i64 0, .bool false, .slice none 0 0, .slice none 0 0, .string ⟨#[]⟩, .int .i64 0, .int .i64 0, .slice none 0 0])) := Lib.hid (gq_no (rb := rb) [.int .i64 0, .int .i64 0, .int .i64 0, .int .i64 0, .int .i64 0, .int .i64 0, .bool false, .slice none 0 0, .slice none 0 0, .string ⟨#[]⟩, .int .i64 0, .int .i64 0, .slice none 0 0] (is_bad K2.out) BX.out RB.out)
    go_wp2_with fail
    refine bodyPost_ret (v := .tuple #[.agg #[.int .i64 0, .int .i64 0, .int .i64 0, .int .i64 0, .int .i64 0, .int .i64 0, .bool false, .slice none 0 0, .slice none 0 0, .string ⟨#[]⟩, .int .i64 0, .int .i64 0, .slice none 0 0], .int .i64 1700]) (by rw [results_cell_tmp rfl]; go_simp) rfl ?_
    exact NO.out
  | false =>
  by_cases q2 : z2.size = 0
  case neg =>
    have ne : z2.toList.isEmpty = false := by rw [K.isEmpty_size]; exact decide_eq_false q2
    have LN : Hid (bytesOf z2 ≠ []) := Lib.hid (fun e => q2 (by rw [← bytes_size, e]; rfl))
    have RX := R3; have BX := B3
    have r0 := (obj_cells RX.out).1 0 _ rfl
    have r1 := (obj_cells RX.out).1 1 _ rfl
    have r2 := (obj_cells RX.out).1 2 _ rfl
    have r3 := (obj_cells RX.out).1 3 _ rfl
    have r4 := (obj_cells RX.out).1 4 _ rfl
    have r5 := (obj_cells RX.out).1 5 _ rfl
    have r6 := (obj_cells RX.out).1 6 _ rfl
    have r7 := (obj_cells RX.out).1 7 _ rfl
    have r8 := (obj_cells RX.out).1 8 _ rfl
    have r9 := (obj_cells RX.out).1 9 _ rfl
    have r10 := (obj_cells RX.out).1 10 _ rfl
    have r11 := (obj_cells RX.out).1 11 _ rfl
    have r12 := (obj_cells RX.out).1 12 _ rfl
    have rf_ := (obj_cells RX.out).2.1
    have NO : Hid (GetW s w _ (setAll w3 rb 0 [.int .i64 0, .int .i64 0, .int .i64 0, .int .i64 0, .int .i64 0, .int .i64 0, .bool false, .slice none 0 0, .slice none 0 0, .string ⟨#[]⟩, .int .i64 0, .int .i64 0, .slice none 0 0])) := Lib.hid (gq_no (rb := rb) [.int .i64 0, .int .i64 0, .int .i64 0, .int .i64 0, .int .i64 0, .int .i64 0, .bool false, .slice none 0 0, .slice none 0 0, .string ⟨#[]⟩, .int .i64 0, .int .i64 0, .slice none 0 0] (is_left K2.out LN.out) BX.out RB.out)
    go_wp2_with fail
    refine bodyPost_ret (v := .tuple #[.agg #[.int .i64 0, .int .i64 0, .int .i64 0, .int .i64 0, .int .i64 0, .int .i64 0, .bool false, .slice none 0 0, .slice none 0 0, .string ⟨#[]⟩, .int .i64 0, .int .i64 0, .slice none 0 0], .int .i64 1700]) (by rw [results_cell_tmp rfl]; go_simp) rfl ?_
    exact NO.out
  have hze : z2 = ⟨#[]⟩ := by apply ByteArray.ext; exact Array.eq_empty_of_size_eq_zero q2
  subst hze
  clear q2
  have K3 : Hid (Took QMs msgC (bytesOf s) false ⟨kd, cl, rv, sq, fr, ls, rf, tx, ro, nx, ns, ed, es⟩ [] false) := Lib.hid K2.out
  have MY := Lib.hid (qmay_any ⟨kd, cl, rv, sq, fr, ls, rf, tx, ro, nx, ns, ed, es⟩ ⟨ep, ec, sp, sc, np, nc⟩ w3 (qms_z (K3.out.1 rfl).2.1) O3.out.read)
  unfold msV at MY
  dsimp only at MY
  clear K2
  have x0 := (obj_cells X3.out).1 0 _ rfl
  have x1 := (obj_cells X3.out).1 1 _ rfl
  have x2 := (obj_cells X3.out).1 2 _ rfl
  have x3 := (obj_cells X3.out).1 3 _ rfl
  have x4 := (obj_cells X3.out).1 4 _ rfl
  have x5 := (obj_cells X3.out).1 5 _ rfl
  have x6 := (obj_cells X3.out).1 6 _ rfl
  have x7 := (obj_cells X3.out).1 7 _ rfl
  have x8 := (obj_cells X3.out).1 8 _ rfl
  have x9 := (obj_cells X3.out).1 9 _ rfl
  have x10 := (obj_cells X3.out).1 10 _ rfl
  have x11 := (obj_cells X3.out).1 11 _ rfl
  have x12 := (obj_cells X3.out).1 12 _ rfl
  go_wp2_with (go_at_call 12; refine MY.out.mono ?_; rintro e w4 ⟨hb, ⟨rfl, hm⟩ | ⟨rfl, hm⟩⟩ <;> (have BX := Lib.hid (B3.out.trans (hb.mono B3.out.size)); have HM := Lib.hid hm; have X4 := Lib.hid (heap_later X3.out hb); have RX := Lib.hid (heap_later R3.out hb); have O4 := Lib.hid (O3.out.below hb); have y0 := (obj_cells X4.out).1 0 _ rfl; have y1 := (obj_cells X4.out).1 1 _ rfl; have y2 := (obj_cells X4.out).1 2 _ rfl; have y3 := (obj_cells X4.out).1 3 _ rfl; have y4 := (obj_cells X4.out).1 4 _ rfl; have y5 := (obj_cells X4.out).1 5 _ rfl; have y6 := (obj_cells X4.out).1 6 _ rfl; have y7 := (obj_cells X4.out).1 7 _ rfl; have y8 := (obj_cells X4.out).1 8 _ rfl; have y9 := (obj_cells X4.out).1 9 _ rfl; have y10 := (obj_cells X4.out).1 10 _ rfl; have y11 := (obj_cells X4.out).1 11 _ rfl; have y12 := (obj_cells X4.out).1 12 _ rfl; have r0 := (obj_cells RX.out).1 0 _ rfl; have r1 := (obj_cells RX.out).1 1 _ rfl; have r2 := (obj_cells RX.out).1 2 _ rfl; have r3 := (obj_cells RX.out).1 3 _ rfl; have r4 := (obj_cells RX.out).1 4 _ rfl; have r5 := (obj_cells RX.out).1 5 _ rfl; have r6 := (obj_cells RX.out).1 6 _ rfl; have r7 := (obj_cells RX.out).1 7 _ rfl; have r8 := (obj_cells RX.out).1 8 _ rfl; have r9 := (obj_cells RX.out).1 9 _ rfl; have r10 := (obj_cells RX.out).1 10 _ rfl; have r11 := (obj_cells RX.out).1 11 _ rfl; have r12 := (obj_cells RX.out).1 12 _ rfl; have rf_ := (obj_cells RX.out).2.1; clear hb hm))
  · have YES : Hid (GetW s w (.returned (.tuple #[.agg #[.int .i64 kd, .int .i64 cl, .int .i64 rv, .int .i64 sq, .int .i64 fr, .int .i64 ls, .bool rf, .slice ep ed.length ec, .slice sp es.length sc, .string tx, .int .i64 ro, .int .i64 nx, .slice np ns.length nc], .int .i64 0])) (setAll w4 rb 0 [.int .i64 kd, .int .i64 cl, .int .i64 rv, .int .i64 sq, .int .i64 fr, .int .i64 ls, .bool rf, .slice ep ed.length ec, .slice sp es.length sc, .string tx, .int .i64 ro, .int .i64 nx, .slice np ns.length nc])) := Lib.hid (gq_yes (m := ⟨kd, cl, rv, sq, fr, ls, rf, tx, ro, nx, ns, ed, es⟩) (q := ⟨ep, ec, sp, sc, np, nc⟩) (rb := rb) [.int .i64 kd, .int .i64 cl, .int .i64 rv, .int .i64 sq, .int .i64 fr, .int .i64 ls, .bool rf, .slice ep ed.length ec, .slice sp es.length sc, .string tx, .int .i64 ro, .int .i64 nx, .slice np ns.length nc] (is_yes K3.out HM.out Q0.out) O4.out RX.out BX.out RB.out)
    refine bodyPost_ret (v := .tuple #[.agg #[.int .i64 kd, .int .i64 cl, .int .i64 rv, .int .i64 sq, .int .i64 fr, .int .i64 ls, .bool rf, .slice ep ed.length ec, .slice sp es.length sc, .string tx, .int .i64 ro, .int .i64 nx, .slice np ns.length nc], .int .i64 0]) (by rw [results_cell_tmp rfl]; go_simp) rfl ?_
    exact YES.out
  · have NO : Hid (GetW s w _ (setAll w4 rb 0 [.int .i64 0, .int .i64 0, .int .i64 0, .int .i64 0, .int .i64 0, .int .i64 0, .bool false, .slice none 0 0, .slice none 0 0, .string ⟨#[]⟩, .int .i64 0, .int .i64 0, .slice none 0 0])) := Lib.hid (gq_no (rb := rb) [.int .i64 0, .int .i64 0, .int .i64 0, .int .i64 0, .int .i64 0, .int .i64 0, .bool false, .slice none 0 0, .slice none 0 0, .string ⟨#[]⟩, .int .i64 0, .int .i64 0, .slice none 0 0] (is_not K3.out HM.out) BX.out RB.out)
    refine bodyPost_ret (v := .tuple #[.agg #[.int .i64 0, .int .i64 0, .int .i64 0, .int .i64 0, .int .i64 0, .int .i64 0, .bool false, .slice none 0 0, .slice none 0 0, .string ⟨#[]⟩, .int .i64 0, .int .i64 0, .slice none 0 0], .int .i64 1700]) (by rw [results_cell_tmp rfl]; go_simp) rfl ?_
    exact NO.out

end Go.Proofs.YtjmfjlffcopnnaaGreatDoor
