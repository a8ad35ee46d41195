/-
  Tro, Trs, Trm, Lw3, Lw4, in one text. Conditions: as each theorem's premises say.
-/
import Derived.Test.YtjmfjlffcopnnaaGreatDoorPM33
import Derived.Test.YtjmfjlffcopnnaaGreatDoorPM07
import Derived.Test.YtjmfjlffcopnnaaGreatDoorPM13
import Derived.Test.YtjmfjlffcopnnaaGreatDoorPM03
import Derived.Test.YtjmfjlffcopnnaaGreatDoorPM19
import Derived.Test.YtjmfjlffcopnnaaGreatDoorPM28
import Derived.Test.YtjmfjlffcopnnaaGreatDoorPM17
import Derived.Deep.RegionHeld3
namespace Go.Proofs.YtjmfjlffcopnnaaGreatDoor
open Go.ChangeShapes Go.WideShapes Go.ChangeAt Go.RowKit Go.Deep

theorem t_cells46 : Tryz.prog.cellsOf 109 = 5 := by kernel_rfl
theorem t_bytes46 : Tryz.prog.bytesOf 109 = 56 := by kernel_rfl
theorem t_bytes3 : Tryz.prog.bytesOf 3 = 8 := by kernel_rfl
theorem t_cells3 : Tryz.prog.cellsOf 3 = 1 := by kernel_rfl
theorem t_cells22 : Tryz.prog.cellsOf 24 = 1 := by kernel_rfl
theorem t_cellsK : Tryz.prog.cellsOf 49 = 1 := by kernel_rfl

theorem plain_of_cell {w : World} {a : Addr} {v : Value} (h : w.cell? a = some v) : a.spot = none := by
  unfold World.cell? at h
  split at h
  · cases hs : a.spot with
    | none => rfl
    | some s => simp [hs] at h
  · cases h

theorem list_of {α : Type} [Inhabited α] {P : Nat → α → Prop} (n : Nat) (h : ∀ i, i < n → ∃ c, P i c) : ∃ cs : List α, cs.length = n ∧ ∀ (i : Nat) c, cs[i]? = some c → P i c := by
  induction n with
  | zero => exact ⟨[], rfl, fun i c hi => by simp at hi⟩
  | succ n ih =>
    obtain ⟨cs, hl, hc⟩ := ih fun i hi => h i (by omega)
    obtain ⟨c, hp⟩ := h n (by omega)
    refine ⟨cs ++ [c], by simp [hl], fun i d hi => ?_⟩
    by_cases hil : i < cs.length
    · rw [List.getElem?_append_left hil] at hi
      exact hc i d hi
    · rw [List.getElem?_append_right (by omega)] at hi
      have h0 : i - cs.length = 0 := by
        have := (List.getElem?_eq_some_iff.1 hi).1
        simp at this; omega
      rw [h0] at hi
      simp at hi
      subst hi
      obtain rfl : i = n := by omega
      exact hp

instance : Inhabited Nd := ⟨⟨0, 0, 0, 0, []⟩⟩

theorem weights_all {H : Type} {P : Program} {e : TypeId} : ∀ {ds : List (DataW H)} {d : DataW H}, d ∈ ds → ∀ m ∈ d.weights P e, m ∈ DataW.weightsAll P e ds
  | d0 :: r, d, h, m, hm => by
    simp only [DataW.weightsAll, List.mem_append]
    rcases List.mem_cons.1 h with rfl | h
    · exact .inl hm
    · exact .inr (weights_all h m hm)
  | [], _, h, _, _ => by simp at h

section
variable {H : Type} {enc : TypeId × Value → H} {w : World} {base : Nat} {held : Bool}

/-- What is read weighs no more than may be. -/
def Lite (t : TypeId) (d : DataW H) : Prop := ∀ m ∈ d.weights Tryz.prog t, m ≤ reachBytes

set_option maxRecDepth 100000 in
theorem ints_open {fuel : Nat} {cs : List Value} {x : DataW H × List MemPlace} (h : DataW.trod enc Tryz.prog w base (fun _ => true) held fuel 49 cs = some x) :
    ∃ (p : Option Addr) (cap : Nat) (ks : List Int), cs = [.slice p ks.length cap] ∧ ks.length ≤ cap ∧ lyI.Row w p ks ∧ (Lite 49 x.1 → ks.length * 8 ≤ reachBytes) := by
  rcases open_slice1 Tryz.underlying49 t_cells3 h with ⟨h0, _⟩ | ⟨a, len, cap, m, k, V, D, Pl, hcs, _, hl, _, hmm, hx, hi⟩
  · subst h0
    exact ⟨none, 0, [], rfl, Nat.le_refl _, Ly.Row.nil _, fun _ => by simp⟩
  · obtain rfl : m = cap := by rw [hmm]; simp
    subst hcs
    obtain ⟨b, o, sp⟩ := a
    obtain ⟨ks, hkl, hat⟩ := list_of (P := fun i (c : Int) => sp = none ∧ w.cell? ⟨b, o + i, none⟩ = some (.int .i64 c)) len (fun i hil => by
      obtain ⟨hc, ht⟩ := hi i (by omega)
      obtain rfl : sp = none := by
        have h0 := (hi 0 (by omega)).1
        exact plain_of_cell h0
      obtain ⟨c, hv, _⟩ := DataW.trod_int Tryz.underlying3 ht
      rw [add_plain] at hc
      exact ⟨c, rfl, by rw [hc]; simpa using hv⟩)
    subst hkl
    refine ⟨some ⟨b, o, sp⟩, m, ks, rfl, hl, fun i c hic => ?_, fun hw => ?_⟩
    · obtain ⟨rfl, hcell⟩ := hat i c hic
      refine ⟨b, o, rfl, fun j u hu => ?_⟩
      match j, hu with
      | 0, hu =>
        have : u = .int .i64 c := by simpa [lyI] using hu.symm
        subst this
        simpa [lyI] using hcell
      | j + 1, hu => simp [lyI] at hu
    · subst hx
      have := hw ((ks.length + (m - ks.length)) * 8) (by
        simp only [DataW.weights, Tryz.underlying49, List.length_map, List.length_range, t_bytes3]
        exact List.mem_cons_self ..)
      have h2 : ks.length + (m - ks.length) = m := by omega
      rw [h2] at this
      omega

set_option maxRecDepth 100000 in
theorem node_open {fuel : Nat} {cs : List Value} {x : DataW H × List MemPlace} (h : DataW.trod enc Tryz.prog w base (fun _ => true) held fuel 109 cs = some x) :
    ∃ (n : Nd) (kp : Option Addr) (kc : Nat), cs = Nv.cells ⟨n.id, n.kd, n.fr, Nd.to n, kp, n.kids.length, kc⟩ ∧ lyI.Row w kp n.kids ∧ (Lite 109 x.1 → n.kids.length * 8 ≤ reachBytes) := by
  obtain ⟨ys, n', _, hx, hcl, hyl, hf⟩ := DataW.trod_struct Tryz.underlying109 h
  rw [t_cells46] at hcl
  match cs, hcl with
  | [c0, c1, c2, c3, c4], _ =>
    have hyl3 : ys.length = 5 := hyl
    match ys, hyl3 with
    | [y0, y1, y2, y3, y4], _ =>
      have g0 := hf 0 _ rfl
      have g1 := hf 1 _ rfl
      have g2 := hf 2 _ rfl
      have g3 := hf 3 _ rfl
      have g4 := hf 4 _ rfl
      obtain ⟨a0, h0, _⟩ := DataW.trod_int Tryz.underlying3 g0
      obtain ⟨a1, h1, _⟩ := DataW.trod_int Tryz.underlying3 g1
      obtain ⟨a2, h2, _⟩ := DataW.trod_int Tryz.underlying3 g2
      obtain ⟨a3, h3, _⟩ := DataW.trod_int Tryz.underlying3 g3
      obtain ⟨kp, kc, ks, h4, _, hr, hw⟩ := ints_open g4
      simp [t_cells3, t_cellsK] at h0 h1 h2 h3 h4
      subst h0; subst h1; subst h2; subst h3; subst h4
      refine ⟨⟨a0, a1, a2, a3, ks⟩, kp, kc, rfl, hr, fun hl => hw fun m hm => ?_⟩
      subst hx
      refine hl m ?_
      simp only [DataW.weights, Tryz.underlying109]
      exact DataW.weights_mem_each (j := 4) rfl rfl m hm

set_option maxRecDepth 100000 in
theorem nodes_open {fuel : Nat} {cs : List Value} {x : DataW H × List MemPlace} (h : DataW.trod enc Tryz.prog w base (fun _ => true) held fuel 24 cs = some x) :
    ∃ (p : Option Addr) (cap : Nat) (ns : List Nd), cs = [.slice p ns.length cap] ∧ ns.length ≤ cap ∧ NodesR w p ns ∧ (Lite 24 x.1 → ns.length * 56 ≤ reachBytes ∧ ∀ n ∈ ns, n.kids.length * 8 ≤ reachBytes) := by
  rcases open_slice Tryz.underlying24 h with ⟨h0, _⟩ | ⟨a, len, cap, m, k, D, Pl, hcs, _, hl, _, hmm, hx, hi⟩
  · subst h0
    exact ⟨none, 0, [], rfl, Nat.le_refl _, fun i n hn => by simp at hn, fun _ => ⟨by simp, by simp⟩⟩
  · obtain rfl : m = cap := by rw [hmm]; simp
    subst hcs
    obtain ⟨b, o, sp⟩ := a
    obtain ⟨ns, hnl, hat⟩ := list_of (P := fun i (c : Nd) => (∃ kp kc, sp = none ∧ lyN.At w b (o + i * 5) ⟨c.id, c.kd, c.fr, Nd.to c, kp, c.kids.length, kc⟩ ∧ lyI.Row w kp c.kids) ∧ (Lite 109 (D i) → c.kids.length * 8 ≤ reachBytes)) len (fun i hil => by
      obtain ⟨cs', hc, ht⟩ := hi i (by omega)
      obtain rfl : sp = none := by
        obtain ⟨cs0, hc0, _⟩ := hi 0 (by omega)
        rw [t_cells46] at hc0
        obtain ⟨_, hcl0, hat0⟩ := World.cells?_some hc0
        have h0 := hat0 0 (by omega)
        rw [List.getElem?_eq_getElem (by omega)] at h0
        rw [Nat.zero_mul] at h0
        exact plain_of_cell h0
      obtain ⟨n, kp, kc, rfl, hr, hw⟩ := node_open ht
      rw [t_cells46] at hc
      obtain ⟨_, hcl, hat⟩ := World.cells?_some hc
      refine ⟨n, ⟨kp, kc, rfl, fun j u hu => ?_, hr⟩, hw⟩
      have hj : j < 5 := by have := (List.getElem?_eq_some_iff.1 hu).1; simpa [lyN, Nv.cells] using this
      have e := hat j hj
      simp only [add_plain] at e
      rw [e]
      exact hu)
    subst hnl
    refine ⟨some ⟨b, o, sp⟩, m, ns, rfl, hl, fun i n hn => ?_, fun hw => ⟨?_, fun n hn => ?_⟩⟩
    · obtain ⟨⟨kp, kc, rfl, hp, hr⟩, _⟩ := hat i n hn
      exact ⟨b, o, kp, kc, rfl, hp, hr⟩
    · subst hx
      have := hw ((ns.length + (m - ns.length)) * 56) (by
        simp only [DataW.weights, Tryz.underlying24, List.length_map, List.length_range, t_bytes46]
        exact List.mem_cons_self ..)
      have h2 : ns.length + (m - ns.length) = m := by omega
      rw [h2] at this
      omega
    · obtain ⟨i, hin⟩ := List.mem_iff_getElem?.1 hn
      have hlt := (List.getElem?_eq_some_iff.1 hin).1
      refine (hat i n hin).2 fun u hu => hw u ?_
      subst hx
      simp only [DataW.weights, Tryz.underlying24]
      refine List.mem_cons_of_mem _ (List.mem_append_left _ (weights_all (d := D i) ?_ u hu))
      exact List.mem_map.2 ⟨i, List.mem_range.2 hlt, rfl⟩

end
end Go.Proofs.YtjmfjlffcopnnaaGreatDoor

namespace Go.Proofs.YtjmfjlffcopnnaaGreatDoor
open Go.ChangeShapes Go.WideShapes Go.ChangeAt Go.RowKit Go.Deep

theorem t_cells42 : Tryz.prog.cellsOf 51 = 6 := by kernel_rfl
theorem t_bytes42 : Tryz.prog.bytesOf 51 = 64 := by kernel_rfl
instance : Inhabited St := ⟨⟨0, 0, 0, 0, 0, []⟩⟩

section
variable {H : Type} {enc : TypeId × Value → H} {w : World} {base : Nat} {held : Bool}

set_option maxRecDepth 100000 in
theorem step_open {fuel : Nat} {cs : List Value} {x : DataW H × List MemPlace} (h : DataW.trod enc Tryz.prog w base (fun _ => true) held fuel 51 cs = some x) :
    ∃ (n : St) (kp : Option Addr) (kc : Nat), cs = Sv.cells ⟨n.kd, n.id, n.nd, n.fr, St.to n, kp, n.kids.length, kc⟩ ∧ lyI.Row w kp n.kids ∧ (Lite 51 x.1 → n.kids.length * 8 ≤ reachBytes) := by
  obtain ⟨ys, n', _, hx, hcl, hyl, hf⟩ := DataW.trod_struct Tryz.underlying51 h
  rw [t_cells42] at hcl
  match cs, hcl with
  | [c0, c1, c2, c3, c4, c5], _ =>
    have hyl3 : ys.length = 6 := hyl
    match ys, hyl3 with
    | [y0, y1, y2, y3, y4, y5], _ =>
      have g0 := hf 0 _ rfl
      have g1 := hf 1 _ rfl
      have g2 := hf 2 _ rfl
      have g3 := hf 3 _ rfl
      have g4 := hf 4 _ rfl
      have g5 := hf 5 _ rfl
      obtain ⟨a0, h0, _⟩ := DataW.trod_int Tryz.underlying3 g0
      obtain ⟨a1, h1, _⟩ := DataW.trod_int Tryz.underlying3 g1
      obtain ⟨a2, h2, _⟩ := DataW.trod_int Tryz.underlying3 g2
      obtain ⟨a3, h3, _⟩ := DataW.trod_int Tryz.underlying3 g3
      obtain ⟨a4, h4, _⟩ := DataW.trod_int Tryz.underlying3 g4
      obtain ⟨kp, kc, ks, h5, _, hr, hw⟩ := ints_open g5
      simp [t_cells3, t_cellsK] at h0 h1 h2 h3 h4 h5
      subst h0; subst h1; subst h2; subst h3; subst h4; subst h5
      refine ⟨⟨a0, a1, a2, a3, a4, ks⟩, kp, kc, rfl, hr, fun hl => hw fun m hm => ?_⟩
      subst hx
      refine hl m ?_
      simp only [DataW.weights, Tryz.underlying51]
      exact DataW.weights_mem_each (j := 5) rfl rfl m hm

set_option maxRecDepth 100000 in
theorem steps_open {fuel : Nat} {cs : List Value} {x : DataW H × List MemPlace} (h : DataW.trod enc Tryz.prog w base (fun _ => true) held fuel 52 cs = some x) :
    ∃ (p : Option Addr) (cap : Nat) (ns : List St), cs = [.slice p ns.length cap] ∧ ns.length ≤ cap ∧ StepsR w p ns ∧ (Lite 52 x.1 → ns.length * 64 ≤ reachBytes ∧ ∀ n ∈ ns, n.kids.length * 8 ≤ reachBytes) := by
  rcases open_slice Tryz.underlying52 h with ⟨h0, _⟩ | ⟨a, len, cap, m, k, D, Pl, hcs, _, hl, _, hmm, hx, hi⟩
  · subst h0
    exact ⟨none, 0, [], rfl, Nat.le_refl _, fun i n hn => by simp at hn, fun _ => ⟨by simp, by simp⟩⟩
  · obtain rfl : m = cap := by rw [hmm]; simp
    subst hcs
    obtain ⟨b, o, sp⟩ := a
    obtain ⟨ns, hnl, hat⟩ := list_of (P := fun i (c : St) => (∃ kp kc, sp = none ∧ lyS.At w b (o + i * 6) ⟨c.kd, c.id, c.nd, c.fr, St.to c, kp, c.kids.length, kc⟩ ∧ lyI.Row w kp c.kids) ∧ (Lite 51 (D i) → c.kids.length * 8 ≤ reachBytes)) len (fun i hil => by
      obtain ⟨cs', hc, ht⟩ := hi i (by omega)
      obtain rfl : sp = none := by
        obtain ⟨cs0, hc0, _⟩ := hi 0 (by omega)
        rw [t_cells42] at hc0
        obtain ⟨_, hcl0, hat0⟩ := World.cells?_some hc0
        have h0 := hat0 0 (by omega)
        rw [List.getElem?_eq_getElem (by omega)] at h0
        rw [Nat.zero_mul] at h0
        exact plain_of_cell h0
      obtain ⟨n, kp, kc, rfl, hr, hw⟩ := step_open ht
      rw [t_cells42] at hc
      obtain ⟨_, hcl, hat⟩ := World.cells?_some hc
      refine ⟨n, ⟨kp, kc, rfl, fun j u hu => ?_, hr⟩, hw⟩
      have hj : j < 6 := by have := (List.getElem?_eq_some_iff.1 hu).1; simpa [lyS, Sv.cells] using this
      have e := hat j hj
      simp only [add_plain] at e
      rw [e]
      exact hu)
    subst hnl
    refine ⟨some ⟨b, o, sp⟩, m, ns, rfl, hl, fun i n hn => ?_, fun hw => ⟨?_, fun n hn => ?_⟩⟩
    · obtain ⟨⟨kp, kc, rfl, hp, hr⟩, _⟩ := hat i n hn
      exact ⟨b, o, kp, kc, rfl, hp, hr⟩
    · subst hx
      have := hw ((ns.length + (m - ns.length)) * 64) (by
        simp only [DataW.weights, Tryz.underlying52, List.length_map, List.length_range, t_bytes42]
        exact List.mem_cons_self ..)
      have h2 : ns.length + (m - ns.length) = m := by omega
      rw [h2] at this
      omega
    · obtain ⟨i, hin⟩ := List.mem_iff_getElem?.1 hn
      have hlt := (List.getElem?_eq_some_iff.1 hin).1
      refine (hat i n hin).2 fun u hu => hw u ?_
      subst hx
      simp only [DataW.weights, Tryz.underlying52]
      refine List.mem_cons_of_mem _ (List.mem_append_left _ (weights_all (d := D i) ?_ u hu))
      exact List.mem_map.2 ⟨i, List.mem_range.2 hlt, rfl⟩

end
end Go.Proofs.YtjmfjlffcopnnaaGreatDoor

namespace Go.Proofs.YtjmfjlffcopnnaaGreatDoor
open Go.ChangeShapes Go.WideShapes Go.ChangeAt Go.RowKit Go.Deep
open Go.Proofs.YtjmfjlffcopnnaaGreatDoor.K (C RowC)

theorem t_cells54 : Tryz.prog.cellsOf 54 = 4 := by kernel_rfl
theorem t_bytes54 : Tryz.prog.bytesOf 54 = 64 := by kernel_rfl
theorem t_bytes48 : Tryz.prog.bytesOf 48 = 32 := by kernel_rfl
theorem t_cells22' : Tryz.prog.cellsOf 22 = 1 := by kernel_rfl
theorem t_cells23 : Tryz.prog.cellsOf 23 = 1 := by kernel_rfl
theorem t_cells52 : Tryz.prog.cellsOf 52 = 1 := by kernel_rfl
theorem t_cells26 : Tryz.prog.cellsOf 26 = 3 := by kernel_rfl
theorem t_cells28 : Tryz.prog.cellsOf 28 = 13 := by kernel_rfl
theorem t_cells4 : Tryz.prog.cellsOf 4 = 1 := by kernel_rfl
theorem t_cells9 : Tryz.prog.cellsOf 9 = 1 := by kernel_rfl
instance : Inhabited En := ⟨⟨0, 0, [], []⟩⟩

section
variable {H : Type} {enc : TypeId × Value → H} {w : World} {base : Nat} {held : Bool}

set_option maxRecDepth 100000 in
theorem comps_lite {fuel : Nat} {cs : List Value} {x : DataW H × List MemPlace} (h : DataW.trod enc Tryz.prog w base (fun _ => true) held fuel 22 cs = some x) :
    ∃ (p : Option Addr) (cap : Nat) (l : List C), cs = [.slice p l.length cap] ∧ l.length ≤ cap ∧ RowC w p l ∧ (Lite 22 x.1 → l.length * 32 ≤ reachBytes) := by
  rcases open_slice Tryz.underlying22 h with ⟨h0, _⟩ | ⟨a, len, cap, m, k, D, Pl, hcs, _, hl, _, hmm, hx, hi⟩
  · subst h0
    exact ⟨none, 0, [], rfl, Nat.le_refl _, fun i n hn => by simp at hn, fun _ => by simp⟩
  · obtain rfl : m = cap := by rw [hmm]; simp
    subst hcs
    obtain ⟨l, h1, h2, h3, _⟩ := K.comps_open h
    subst h1
    refine ⟨some a, m, l, rfl, h2, h3, fun hw => ?_⟩
    subst hx
    have := hw ((l.length + (m - l.length)) * 32) (by
      simp only [DataW.weights, Tryz.underlying22, List.length_map, List.length_range, t_bytes48]
      exact List.mem_cons_self ..)
    have h2 : l.length + (m - l.length) = m := by omega
    rw [h2] at this
    omega

set_option maxRecDepth 100000 in
theorem entry_open {fuel : Nat} {cs : List Value} {x : DataW H × List MemPlace} (h : DataW.trod enc Tryz.prog w base (fun _ => true) held fuel 54 cs = some x) :
    ∃ (n : En) (ep : Option Addr) (ec : Nat) (dp : Option Addr) (dc : Nat), cs = Ev.cells ⟨n.cl, n.sq, ep, n.ed.length, ec, dp, n.dl.length, dc⟩ ∧ RowC w ep n.ed ∧ StepsR w dp n.dl ∧ (Lite 54 x.1 → n.ed.length * 32 ≤ reachBytes ∧ n.dl.length * 64 ≤ reachBytes ∧ ∀ s ∈ n.dl, s.kids.length * 8 ≤ reachBytes) := by
  obtain ⟨ys, n', _, hx, hcl, hyl, hf⟩ := DataW.trod_struct Tryz.underlying54 h
  rw [t_cells54] at hcl
  match cs, hcl with
  | [c0, c1, c2, c3], _ =>
    have hyl3 : ys.length = 4 := hyl
    match ys, hyl3 with
    | [y0, y1, y2, y3], _ =>
      have g0 := hf 0 _ rfl
      have g1 := hf 1 _ rfl
      have g2 := hf 2 _ rfl
      have g3 := hf 3 _ rfl
      obtain ⟨a0, h0, _⟩ := DataW.trod_int Tryz.underlying3 g0
      obtain ⟨a1, h1, _⟩ := DataW.trod_int Tryz.underlying3 g1
      obtain ⟨ep, ec, ed, h2, _, hr2, hw2⟩ := comps_lite g2
      obtain ⟨dp, dc, dl, h3, _, hr3, hw3⟩ := steps_open g3
      simp [t_cells3, t_cells22', t_cells52] at h0 h1 h2 h3
      subst h0; subst h1; subst h2; subst h3
      subst hx
      refine ⟨⟨a0, a1, ed, dl⟩, ep, ec, dp, dc, rfl, hr2, hr3, fun hl => ⟨hw2 fun m hm => hl m ?_, hw3 fun m hm => hl m ?_⟩⟩
      · simp only [DataW.weights, Tryz.underlying54]
        exact DataW.weights_mem_each (j := 2) rfl rfl m hm
      · simp only [DataW.weights, Tryz.underlying54]
        exact DataW.weights_mem_each (j := 3) rfl rfl m hm

set_option maxRecDepth 100000 in
theorem entries_open {fuel : Nat} {cs : List Value} {x : DataW H × List MemPlace} (h : DataW.trod enc Tryz.prog w base (fun _ => true) held fuel 23 cs = some x) :
    ∃ (p : Option Addr) (cap : Nat) (ns : List En), cs = [.slice p ns.length cap] ∧ ns.length ≤ cap ∧ EntsR w p ns ∧ (Lite 23 x.1 → ns.length * 64 ≤ reachBytes ∧ ∀ n ∈ ns, n.ed.length * 32 ≤ reachBytes ∧ n.dl.length * 64 ≤ reachBytes ∧ ∀ s ∈ n.dl, s.kids.length * 8 ≤ reachBytes) := by
  rcases open_slice Tryz.underlying23 h with ⟨h0, _⟩ | ⟨a, len, cap, m, k, D, Pl, hcs, _, hl, _, hmm, hx, hi⟩
  · subst h0
    exact ⟨none, 0, [], rfl, Nat.le_refl _, fun i n hn => by simp at hn, fun _ => ⟨by simp, by simp⟩⟩
  · obtain rfl : m = cap := by rw [hmm]; simp
    subst hcs
    obtain ⟨b, o, sp⟩ := a
    obtain ⟨ns, hnl, hat⟩ := list_of (P := fun i (c : En) => (∃ ep ec dp dc, sp = none ∧ lyE.At w b (o + i * 4) ⟨c.cl, c.sq, ep, c.ed.length, ec, dp, c.dl.length, dc⟩ ∧ RowC w ep c.ed ∧ StepsR w dp c.dl) ∧ (Lite 54 (D i) → c.ed.length * 32 ≤ reachBytes ∧ c.dl.length * 64 ≤ reachBytes ∧ ∀ s ∈ c.dl, s.kids.length * 8 ≤ reachBytes)) len (fun i hil => by
      obtain ⟨cs', hc, ht⟩ := hi i (by omega)
      obtain rfl : sp = none := by
        obtain ⟨cs0, hc0, _⟩ := hi 0 (by omega)
        rw [t_cells54] at hc0
        obtain ⟨_, hcl0, hat0⟩ := World.cells?_some hc0
        have h0 := hat0 0 (by omega)
        rw [List.getElem?_eq_getElem (by omega)] at h0
        rw [Nat.zero_mul] at h0
        exact plain_of_cell h0
      obtain ⟨n, ep, ec, dp, dc, rfl, hr, hr2, hw⟩ := entry_open ht
      rw [t_cells54] at hc
      obtain ⟨_, hcl, hat⟩ := World.cells?_some hc
      refine ⟨n, ⟨ep, ec, dp, dc, rfl, fun j u hu => ?_, hr, hr2⟩, hw⟩
      have hj : j < 4 := by have := (List.getElem?_eq_some_iff.1 hu).1; simpa [lyE, Ev.cells] using this
      have e := hat j hj
      simp only [add_plain] at e
      rw [e]
      exact hu)
    subst hnl
    refine ⟨some ⟨b, o, sp⟩, m, ns, rfl, hl, fun i n hn => ?_, fun hw => ⟨?_, fun n hn => ?_⟩⟩
    · obtain ⟨⟨ep, ec, dp, dc, rfl, hp, hr⟩, _⟩ := hat i n hn
      exact ⟨b, o, ep, ec, dp, dc, rfl, hp, hr⟩
    · subst hx
      have := hw ((ns.length + (m - ns.length)) * 64) (by
        simp only [DataW.weights, Tryz.underlying23, List.length_map, List.length_range, t_bytes54]
        exact List.mem_cons_self ..)
      have h2 : ns.length + (m - ns.length) = m := by omega
      rw [h2] at this
      omega
    · obtain ⟨i, hin⟩ := List.mem_iff_getElem?.1 hn
      have hlt := (List.getElem?_eq_some_iff.1 hin).1
      refine (hat i n hin).2 fun u hu => hw u ?_
      subst hx
      simp only [DataW.weights, Tryz.underlying23]
      refine List.mem_cons_of_mem _ (List.mem_append_left _ (weights_all (d := D i) ?_ u hu))
      exact List.mem_map.2 ⟨i, List.mem_range.2 hlt, rfl⟩

set_option maxRecDepth 100000 in
theorem tree_raw {fuel : Nat} {cs : List Value} {x : DataW H × List MemPlace} (h : DataW.trod enc Tryz.prog w base (fun _ => true) held fuel 26 cs = some x) :
    ∃ (ra na : Int) (p : Option Addr) (cap : Nat) (ns : List Nd), cs = [.int .i64 ra, .int .i64 na, .slice p ns.length cap] ∧ NodesR w p ns ∧ (Lite 26 x.1 → ns.length * 56 ≤ reachBytes ∧ ∀ n ∈ ns, n.kids.length * 8 ≤ reachBytes) := by
  obtain ⟨ys, n', _, hx, hcl, hyl, hff⟩ := DataW.trod_struct Tryz.underlying26 h
  rw [t_cells26] at hcl
  match cs, hcl with
  | [c0, c1, c2], _ =>
    have hyl3 : ys.length = 3 := hyl
    match ys, hyl3 with
    | [y0, y1, y2], _ =>
      have g0 := hff 0 _ rfl
      have g1 := hff 1 _ rfl
      have g2 := hff 2 _ rfl
      obtain ⟨a0, h0, _⟩ := DataW.trod_int Tryz.underlying3 g0
      obtain ⟨a1, h1, _⟩ := DataW.trod_int Tryz.underlying3 g1
      obtain ⟨p, cap, ns, h2, hle, hr, hw⟩ := nodes_open g2
      simp [t_cells3, t_cells22] at h0 h1 h2
      subst h0; subst h1; subst h2
      subst hx
      refine ⟨a0, a1, p, cap, ns, rfl, hr, fun hl => hw fun m hm => hl m ?_⟩
      simp only [DataW.weights, Tryz.underlying26]
      exact DataW.weights_mem_each (j := 2) rfl rfl m hm

set_option maxRecDepth 100000 in
/-- A message, read as data. -/
theorem msg_open {v : Value} {d : DataW H} {ps : List MemPlace} (hs : ∃ cs, v = .agg cs ∧ cs.size = Tryz.prog.cellsOf 28) (h : DataW.Trod enc Tryz.prog w base (fun _ => true) held 28 v d ps) :
    ∃ (m : Ms) (q : Mq), v = msV m q ∧ MsR w m q ∧ (Lite 28 d → MsB m) := by
  obtain ⟨cs, rfl, _⟩ := hs
  obtain ⟨fuel, hf⟩ := h
  obtain ⟨ys, n', _, hx, hcl, hyl, hff⟩ := DataW.trod_struct Tryz.underlying28 hf
  rw [t_cells28] at hcl
  obtain ⟨l, rfl⟩ : ∃ l : List Value, cs = l.toArray := ⟨cs.toList, by simp⟩
  simp only [Value.cells] at hcl hff
  match l, hcl with
  | [c0, c1, c2, c3, c4, c5, c6, c7, c8, c9, c10, c11, c12], _ =>
    have hyl3 : ys.length = 11 := hyl
    match ys, hyl3 with
    | [y0, y1, y2, y3, y4, y5, y6, y7, y8, y9, y10], _ =>
      have g0 := hff 0 _ rfl
      have g1 := hff 1 _ rfl
      have g2 := hff 2 _ rfl
      have g3 := hff 3 _ rfl
      have g4 := hff 4 _ rfl
      have g5 := hff 5 _ rfl
      have g6 := hff 6 _ rfl
      have g7 := hff 7 _ rfl
      have g8 := hff 8 _ rfl
      have g9 := hff 9 _ rfl
      have g10 := hff 10 _ rfl
      obtain ⟨a0, h0, _⟩ := DataW.trod_int Tryz.underlying3 g0
      obtain ⟨a1, h1, _⟩ := DataW.trod_int Tryz.underlying3 g1
      obtain ⟨a2, h2, _⟩ := DataW.trod_int Tryz.underlying3 g2
      obtain ⟨a3, h3, _⟩ := DataW.trod_int Tryz.underlying3 g3
      obtain ⟨a4, h4, _⟩ := DataW.trod_int Tryz.underlying3 g4
      obtain ⟨a5, h5, _⟩ := DataW.trod_int Tryz.underlying3 g5
      obtain ⟨a6, h6, _⟩ := DataW.trod_bool Tryz.underlying4 g6
      obtain ⟨ep, ec, ed, h7, _, hr7, hw7⟩ := comps_lite g7
      obtain ⟨sp, sc, es, h8, _, hr8, hw8⟩ := entries_open g8
      obtain ⟨z, h9, hy9, _⟩ := DataW.trod_string Tryz.underlying9 g9
      obtain ⟨ro, nx, np, nc, ns, h10, hr10, hw10⟩ := tree_raw g10
      simp [t_cells3, t_cells22', t_cells23, t_cells4, t_cells9, t_cells26] at h0 h1 h2 h3 h4 h5 h6 h7 h8 h9 h10
      obtain ⟨k0, k1, k2⟩ := h10
      subst h0; subst h1; subst h2; subst h3; subst h4; subst h5; subst h6; subst h7; subst h8; subst h9; subst k0; subst k1; subst k2
      simp only [Prod.mk.injEq] at hx
      obtain ⟨rfl, _⟩ := hx
      subst hy9
      refine ⟨⟨a0, a1, a2, a3, a4, a5, a6, z, ro, nx, ns, ed, es⟩, ⟨ep, ec, sp, sc, np, nc⟩, rfl, ⟨hr7, hr8, hr10⟩, fun hl => ?_⟩
      have r47 : reachBytes ≤ 140737488355328 := by decide
      have w7 := hw7 fun m hm => hl m (by
        simp only [DataW.weights, Tryz.underlying28]
        exact DataW.weights_mem_each (j := 7) rfl rfl m hm)
      have w8 := hw8 fun m hm => hl m (by
        simp only [DataW.weights, Tryz.underlying28]
        exact DataW.weights_mem_each (j := 8) rfl rfl m hm)
      have w10 := hw10 fun m hm => hl m (by
        simp only [DataW.weights, Tryz.underlying28]
        exact DataW.weights_mem_each (j := 10) rfl rfl m hm)
      have w9 : z.data.toList.length ≤ reachBytes := hl _ (by
        simp only [DataW.weights, Tryz.underlying28]
        exact DataW.weights_mem_each (j := 9) rfl rfl _ (by simp [DataW.weights]))
      exact ⟨Nat.le_trans w7 r47, Nat.le_trans w8.1 r47, Nat.le_trans w10.1 r47, Nat.le_trans (by simpa using w9) r47, fun x hx => Nat.le_trans (w10.2 x hx) r47, fun e he => by
        obtain ⟨b1, b2, b3⟩ := w8.2 e he
        exact ⟨Nat.le_trans b1 r47, Nat.le_trans b2 r47, fun s hs => Nat.le_trans (b3 s hs) r47⟩⟩

end
end Go.Proofs.YtjmfjlffcopnnaaGreatDoor

namespace Go.Proofs.YtjmfjlffcopnnaaGreatDoor
open Go.RowKit
open Go.Proofs.YtjmfjlffcopnnaaGreatDoor.K (C RowC MayP)

/-- What Get answers at a text that is no message's. -/
def GetN (w : World) (e : Ending) (w' : World) : Prop := ∃ q : Mq, e = .returned (.tuple #[.agg #[.int .i64 0, .int .i64 0, .int .i64 0, .int .i64 0, .int .i64 0, .int .i64 0, .bool false, .slice q.ep 0 q.ec, .slice q.sp 0 q.sc, .string ⟨#[]⟩, .int .i64 0, .int .i64 0, .slice q.np 0 q.nc], .int .i64 1700]) ∧ MsR w' ms0 q ∧ Below w.heap.size w w'
theorem getN_of {s : ByteArray} {w : World} {e : Ending} {w' : World} (h : GetW s w e w') (hn : getM s = ms0 ∧ getE s = 1700) : GetN w e w' := by
  obtain ⟨q, rfl, h1, _, h3⟩ := h
  rw [hn.1] at h1
  exact ⟨q, by rw [hn.1, hn.2]; rfl, h1, h3⟩

end Go.Proofs.YtjmfjlffcopnnaaGreatDoor

namespace Go.Proofs.YtjmfjlffcopnnaaGreatDoor
open Go.RowKit
open Go.Proofs.YtjmfjlffcopnnaaGreatDoor.K (C RowC MayP)

/-- What Get answers at a message's text. -/
def GetI (m : Ms) (w : World) (e : Ending) (w' : World) : Prop := ∃ q : Mq, e = .returned (.tuple #[.agg #[.int .i64 m.kd, .int .i64 m.cl, .int .i64 m.rv, .int .i64 m.sq, .int .i64 m.fr, .int .i64 m.ls, .bool m.rf, .slice q.ep m.ed.length q.ec, .slice q.sp m.es.length q.sc, .string m.tx, .int .i64 m.ro, .int .i64 m.nx, .slice q.np m.ns.length q.nc], .int .i64 0]) ∧ MsR w' m q ∧ Below w.heap.size w w'
theorem getI_of {s : ByteArray} {m : Ms} {w : World} {e : Ending} {w' : World} (h : GetW s w e w') (hn : Is s m) : GetI m w e w' := by
  obtain ⟨q, rfl, h1, _, h3⟩ := h
  obtain ⟨e1, e2⟩ := getM_is hn
  rw [e1] at h1
  exact ⟨q, by rw [e1, e2]; rfl, h1, h3⟩

end Go.Proofs.YtjmfjlffcopnnaaGreatDoor
