/-
  Tro, Trs, in one text. Conditions: as each theorem's premises say.
-/
import Derived.Test.YtjmfjlffcopnnaaDoorM25
import Derived.Test.YtjmfjlffcopnnaaDoorMpA
import Derived.Test.YtjmfjlffcopnnaaDoorM16
namespace Go.Proofs.YtjmfjlffcopnnaaDoor
open Go.ChangeShapes Go.WideShapes Go.ChangeAt Go.RowKit Go.Deep

theorem t_cells46 : Tryd.prog.cellsOf 86 = 5 := by kernel_rfl
theorem t_bytes46 : Tryd.prog.bytesOf 86 = 56 := by kernel_rfl
theorem t_bytes3 : Tryd.prog.bytesOf 3 = 8 := by kernel_rfl
theorem t_cells3 : Tryd.prog.cellsOf 3 = 1 := by kernel_rfl
theorem t_cells22 : Tryd.prog.cellsOf 24 = 1 := by kernel_rfl
theorem t_cellsK : Tryd.prog.cellsOf 43 = 1 := by kernel_rfl

theorem plain_of_cell {w : World} {a : Addr} {v : Value} (h : w.cell? a = some v) : a.spot = none := by
  unfold World.cell? at h
  split at h
  · cases hs : a.spot with
    | none => rfl
    | some s => simp [hs] at h
  · cases h

theorem list_of {α : Type} [Inhabited α] {P : Nat → α → Prop} (n : Nat) (h : ∀ i, i < n → ∃ c, P i c) : ∃ cs : List α, cs.length = n ∧ ∀ (i : Nat) c, cs[i]? = some c → P i c := by
  induction n with
  | zero => exact ⟨[], rfl, fun i c hi => by simp at hi⟩
  | succ n ih =>
    obtain ⟨cs, hl, hc⟩ := ih fun i hi => h i (by omega)
    obtain ⟨c, hp⟩ := h n (by omega)
    refine ⟨cs ++ [c], by simp [hl], fun i d hi => ?_⟩
    by_cases hil : i < cs.length
    · rw [List.getElem?_append_left hil] at hi
      exact hc i d hi
    · rw [List.getElem?_append_right (by omega)] at hi
      have h0 : i - cs.length = 0 := by
        have := (List.getElem?_eq_some_iff.1 hi).1
        simp at this; omega
      rw [h0] at hi
      simp at hi
      subst hi
      obtain rfl : i = n := by omega
      exact hp

instance : Inhabited Nd := ⟨⟨0, 0, 0, 0, []⟩⟩

theorem weights_all {H : Type} {P : Program} {e : TypeId} : ∀ {ds : List (DataW H)} {d : DataW H}, d ∈ ds → ∀ m ∈ d.weights P e, m ∈ DataW.weightsAll P e ds
  | d0 :: r, d, h, m, hm => by
    simp only [DataW.weightsAll, List.mem_append]
    rcases List.mem_cons.1 h with rfl | h
    · exact .inl hm
    · exact .inr (weights_all h m hm)
  | [], _, h, _, _ => by simp at h

section
variable {H : Type} {enc : TypeId × Value → H} {w : World} {base : Nat} {held : Bool}

/-- What is read weighs no more than may be. -/
def Lite (t : TypeId) (d : DataW H) : Prop := ∀ m ∈ d.weights Tryd.prog t, m ≤ reachBytes

set_option maxRecDepth 100000 in
theorem ints_open {fuel : Nat} {cs : List Value} {x : DataW H × List MemPlace} (h : DataW.trod enc Tryd.prog w base (fun _ => true) held fuel 43 cs = some x) :
    ∃ (p : Option Addr) (cap : Nat) (ks : List Int), cs = [.slice p ks.length cap] ∧ ks.length ≤ cap ∧ lyI.Row w p ks ∧ (Lite 43 x.1 → ks.length * 8 ≤ reachBytes) := by
  rcases open_slice1 Tryd.underlying43 t_cells3 h with ⟨h0, _⟩ | ⟨a, len, cap, m, k, V, D, Pl, hcs, _, hl, _, hmm, hx, hi⟩
  · subst h0
    exact ⟨none, 0, [], rfl, Nat.le_refl _, Ly.Row.nil _, fun _ => by simp⟩
  · obtain rfl : m = cap := by rw [hmm]; simp
    subst hcs
    obtain ⟨b, o, sp⟩ := a
    obtain ⟨ks, hkl, hat⟩ := list_of (P := fun i (c : Int) => sp = none ∧ w.cell? ⟨b, o + i, none⟩ = some (.int .i64 c)) len (fun i hil => by
      obtain ⟨hc, ht⟩ := hi i (by omega)
      obtain rfl : sp = none := by
        have h0 := (hi 0 (by omega)).1
        exact plain_of_cell h0
      obtain ⟨c, hv, _⟩ := DataW.trod_int Tryd.underlying3 ht
      rw [add_plain] at hc
      exact ⟨c, rfl, by rw [hc]; simpa using hv⟩)
    subst hkl
    refine ⟨some ⟨b, o, sp⟩, m, ks, rfl, hl, fun i c hic => ?_, fun hw => ?_⟩
    · obtain ⟨rfl, hcell⟩ := hat i c hic
      refine ⟨b, o, rfl, fun j u hu => ?_⟩
      match j, hu with
      | 0, hu =>
        have : u = .int .i64 c := by simpa [lyI] using hu.symm
        subst this
        simpa [lyI] using hcell
      | j + 1, hu => simp [lyI] at hu
    · subst hx
      have := hw ((ks.length + (m - ks.length)) * 8) (by
        simp only [DataW.weights, Tryd.underlying43, List.length_map, List.length_range, t_bytes3]
        exact List.mem_cons_self ..)
      have h2 : ks.length + (m - ks.length) = m := by omega
      rw [h2] at this
      omega

set_option maxRecDepth 100000 in
theorem node_open {fuel : Nat} {cs : List Value} {x : DataW H × List MemPlace} (h : DataW.trod enc Tryd.prog w base (fun _ => true) held fuel 86 cs = some x) :
    ∃ (n : Nd) (kp : Option Addr) (kc : Nat), cs = Nv.cells ⟨n.id, n.kd, n.fr, Nd.to n, kp, n.kids.length, kc⟩ ∧ lyI.Row w kp n.kids ∧ (Lite 86 x.1 → n.kids.length * 8 ≤ reachBytes) := by
  obtain ⟨ys, n', _, hx, hcl, hyl, hf⟩ := DataW.trod_struct Tryd.underlying86 h
  rw [t_cells46] at hcl
  match cs, hcl with
  | [c0, c1, c2, c3, c4], _ =>
    have hyl3 : ys.length = 5 := hyl
    match ys, hyl3 with
    | [y0, y1, y2, y3, y4], _ =>
      have g0 := hf 0 _ rfl
      have g1 := hf 1 _ rfl
      have g2 := hf 2 _ rfl
      have g3 := hf 3 _ rfl
      have g4 := hf 4 _ rfl
      obtain ⟨a0, h0, _⟩ := DataW.trod_int Tryd.underlying3 g0
      obtain ⟨a1, h1, _⟩ := DataW.trod_int Tryd.underlying3 g1
      obtain ⟨a2, h2, _⟩ := DataW.trod_int Tryd.underlying3 g2
      obtain ⟨a3, h3, _⟩ := DataW.trod_int Tryd.underlying3 g3
      obtain ⟨kp, kc, ks, h4, _, hr, hw⟩ := ints_open g4
      simp [t_cells3, t_cellsK] at h0 h1 h2 h3 h4
      subst h0; subst h1; subst h2; subst h3; subst h4
      refine ⟨⟨a0, a1, a2, a3, ks⟩, kp, kc, rfl, hr, fun hl => hw fun m hm => ?_⟩
      subst hx
      refine hl m ?_
      simp only [DataW.weights, Tryd.underlying86]
      exact DataW.weights_mem_each (j := 4) rfl rfl m hm

set_option maxRecDepth 100000 in
theorem nodes_open {fuel : Nat} {cs : List Value} {x : DataW H × List MemPlace} (h : DataW.trod enc Tryd.prog w base (fun _ => true) held fuel 24 cs = some x) :
    ∃ (p : Option Addr) (cap : Nat) (ns : List Nd), cs = [.slice p ns.length cap] ∧ ns.length ≤ cap ∧ NodesR w p ns ∧ (Lite 24 x.1 → ns.length * 56 ≤ reachBytes ∧ ∀ n ∈ ns, n.kids.length * 8 ≤ reachBytes) := by
  rcases open_slice Tryd.underlying24 h with ⟨h0, _⟩ | ⟨a, len, cap, m, k, D, Pl, hcs, _, hl, _, hmm, hx, hi⟩
  · subst h0
    exact ⟨none, 0, [], rfl, Nat.le_refl _, fun i n hn => by simp at hn, fun _ => ⟨by simp, by simp⟩⟩
  · obtain rfl : m = cap := by rw [hmm]; simp
    subst hcs
    obtain ⟨b, o, sp⟩ := a
    obtain ⟨ns, hnl, hat⟩ := list_of (P := fun i (c : Nd) => (∃ kp kc, sp = none ∧ lyN.At w b (o + i * 5) ⟨c.id, c.kd, c.fr, Nd.to c, kp, c.kids.length, kc⟩ ∧ lyI.Row w kp c.kids) ∧ (Lite 86 (D i) → c.kids.length * 8 ≤ reachBytes)) len (fun i hil => by
      obtain ⟨cs', hc, ht⟩ := hi i (by omega)
      obtain rfl : sp = none := by
        obtain ⟨cs0, hc0, _⟩ := hi 0 (by omega)
        rw [t_cells46] at hc0
        obtain ⟨_, hcl0, hat0⟩ := World.cells?_some hc0
        have h0 := hat0 0 (by omega)
        rw [List.getElem?_eq_getElem (by omega)] at h0
        rw [Nat.zero_mul] at h0
        exact plain_of_cell h0
      obtain ⟨n, kp, kc, rfl, hr, hw⟩ := node_open ht
      rw [t_cells46] at hc
      obtain ⟨_, hcl, hat⟩ := World.cells?_some hc
      refine ⟨n, ⟨kp, kc, rfl, fun j u hu => ?_, hr⟩, hw⟩
      have hj : j < 5 := by have := (List.getElem?_eq_some_iff.1 hu).1; simpa [lyN, Nv.cells] using this
      have e := hat j hj
      simp only [add_plain] at e
      rw [e]
      exact hu)
    subst hnl
    refine ⟨some ⟨b, o, sp⟩, m, ns, rfl, hl, fun i n hn => ?_, fun hw => ⟨?_, fun n hn => ?_⟩⟩
    · obtain ⟨⟨kp, kc, rfl, hp, hr⟩, _⟩ := hat i n hn
      exact ⟨b, o, kp, kc, rfl, hp, hr⟩
    · subst hx
      have := hw ((ns.length + (m - ns.length)) * 56) (by
        simp only [DataW.weights, Tryd.underlying24, List.length_map, List.length_range, t_bytes46]
        exact List.mem_cons_self ..)
      have h2 : ns.length + (m - ns.length) = m := by omega
      rw [h2] at this
      omega
    · obtain ⟨i, hin⟩ := List.mem_iff_getElem?.1 hn
      have hlt := (List.getElem?_eq_some_iff.1 hin).1
      refine (hat i n hin).2 fun u hu => hw u ?_
      subst hx
      simp only [DataW.weights, Tryd.underlying24]
      refine List.mem_cons_of_mem _ (List.mem_append_left _ (weights_all (d := D i) ?_ u hu))
      exact List.mem_map.2 ⟨i, List.mem_range.2 hlt, rfl⟩

set_option maxRecDepth 100000 in
/-- A tree, read as data. -/
theorem tree_open {v : Value} {d : DataW H} {ps : List MemPlace} (hs : ∃ cs, v = .agg cs ∧ cs.size = Tryd.prog.cellsOf 26) (h : DataW.Trod enc Tryd.prog w base (fun _ => true) held 26 v d ps) :
    ∃ (ra na : Int) (p : Option Addr) (cap : Nat) (ns : List Nd), v = trV ra na p ns.length cap ∧ ns.length ≤ cap ∧ NodesR w p ns ∧ (Lite 26 d → ns.length * 56 ≤ reachBytes ∧ ∀ n ∈ ns, n.kids.length * 8 ≤ reachBytes) := by
  obtain ⟨cs, rfl, _⟩ := hs
  obtain ⟨fuel, hf⟩ := h
  obtain ⟨ys, n', _, hx, hcl, hyl, hff⟩ := DataW.trod_struct Tryd.underlying26 hf
  rw [show Tryd.prog.cellsOf 26 = 3 from by kernel_rfl] at hcl
  obtain ⟨l, rfl⟩ : ∃ l : List Value, cs = l.toArray := ⟨cs.toList, by simp⟩
  simp only [Value.cells] at hcl hff
  match l, hcl with
  | [c0, c1, c2], _ =>
    have hyl3 : ys.length = 3 := hyl
    match ys, hyl3 with
    | [y0, y1, y2], _ =>
      have g0 := hff 0 _ rfl
      have g1 := hff 1 _ rfl
      have g2 := hff 2 _ rfl
      obtain ⟨a0, h0, _⟩ := DataW.trod_int Tryd.underlying3 g0
      obtain ⟨a1, h1, _⟩ := DataW.trod_int Tryd.underlying3 g1
      obtain ⟨p, cap, ns, h2, hle, hr, hw⟩ := nodes_open g2
      simp [t_cells3, t_cells22] at h0 h1 h2
      subst h0; subst h1; subst h2
      refine ⟨a0, a1, p, cap, ns, rfl, hle, hr, fun hl => hw fun m hm => ?_⟩
      simp only [Prod.mk.injEq] at hx
      obtain ⟨rfl, _⟩ := hx
      refine hl m ?_
      simp only [DataW.weights, Tryd.underlying26]
      exact DataW.weights_mem_each (j := 2) rfl rfl m hm

end
end Go.Proofs.YtjmfjlffcopnnaaDoor

namespace Go.Proofs.YtjmfjlffcopnnaaDoor
open Go.ChangeShapes Go.WideShapes Go.ChangeAt Go.RowKit Go.Deep

theorem t_cells42 : Tryd.prog.cellsOf 45 = 6 := by kernel_rfl
theorem t_bytes42 : Tryd.prog.bytesOf 45 = 64 := by kernel_rfl
instance : Inhabited St := ⟨⟨0, 0, 0, 0, 0, []⟩⟩

section
variable {H : Type} {enc : TypeId × Value → H} {w : World} {base : Nat} {held : Bool}

set_option maxRecDepth 100000 in
theorem step_open {fuel : Nat} {cs : List Value} {x : DataW H × List MemPlace} (h : DataW.trod enc Tryd.prog w base (fun _ => true) held fuel 45 cs = some x) :
    ∃ (n : St) (kp : Option Addr) (kc : Nat), cs = Sv.cells ⟨n.kd, n.id, n.nd, n.fr, St.to n, kp, n.kids.length, kc⟩ ∧ lyI.Row w kp n.kids ∧ (Lite 45 x.1 → n.kids.length * 8 ≤ reachBytes) := by
  obtain ⟨ys, n', _, hx, hcl, hyl, hf⟩ := DataW.trod_struct Tryd.underlying45 h
  rw [t_cells42] at hcl
  match cs, hcl with
  | [c0, c1, c2, c3, c4, c5], _ =>
    have hyl3 : ys.length = 6 := hyl
    match ys, hyl3 with
    | [y0, y1, y2, y3, y4, y5], _ =>
      have g0 := hf 0 _ rfl
      have g1 := hf 1 _ rfl
      have g2 := hf 2 _ rfl
      have g3 := hf 3 _ rfl
      have g4 := hf 4 _ rfl
      have g5 := hf 5 _ rfl
      obtain ⟨a0, h0, _⟩ := DataW.trod_int Tryd.underlying3 g0
      obtain ⟨a1, h1, _⟩ := DataW.trod_int Tryd.underlying3 g1
      obtain ⟨a2, h2, _⟩ := DataW.trod_int Tryd.underlying3 g2
      obtain ⟨a3, h3, _⟩ := DataW.trod_int Tryd.underlying3 g3
      obtain ⟨a4, h4, _⟩ := DataW.trod_int Tryd.underlying3 g4
      obtain ⟨kp, kc, ks, h5, _, hr, hw⟩ := ints_open g5
      simp [t_cells3, t_cellsK] at h0 h1 h2 h3 h4 h5
      subst h0; subst h1; subst h2; subst h3; subst h4; subst h5
      refine ⟨⟨a0, a1, a2, a3, a4, ks⟩, kp, kc, rfl, hr, fun hl => hw fun m hm => ?_⟩
      subst hx
      refine hl m ?_
      simp only [DataW.weights, Tryd.underlying45]
      exact DataW.weights_mem_each (j := 5) rfl rfl m hm

set_option maxRecDepth 100000 in
theorem steps_open {fuel : Nat} {cs : List Value} {x : DataW H × List MemPlace} (h : DataW.trod enc Tryd.prog w base (fun _ => true) held fuel 46 cs = some x) :
    ∃ (p : Option Addr) (cap : Nat) (ns : List St), cs = [.slice p ns.length cap] ∧ ns.length ≤ cap ∧ StepsR w p ns ∧ (Lite 46 x.1 → ns.length * 64 ≤ reachBytes ∧ ∀ n ∈ ns, n.kids.length * 8 ≤ reachBytes) := by
  rcases open_slice Tryd.underlying46 h with ⟨h0, _⟩ | ⟨a, len, cap, m, k, D, Pl, hcs, _, hl, _, hmm, hx, hi⟩
  · subst h0
    exact ⟨none, 0, [], rfl, Nat.le_refl _, fun i n hn => by simp at hn, fun _ => ⟨by simp, by simp⟩⟩
  · obtain rfl : m = cap := by rw [hmm]; simp
    subst hcs
    obtain ⟨b, o, sp⟩ := a
    obtain ⟨ns, hnl, hat⟩ := list_of (P := fun i (c : St) => (∃ kp kc, sp = none ∧ lyS.At w b (o + i * 6) ⟨c.kd, c.id, c.nd, c.fr, St.to c, kp, c.kids.length, kc⟩ ∧ lyI.Row w kp c.kids) ∧ (Lite 45 (D i) → c.kids.length * 8 ≤ reachBytes)) len (fun i hil => by
      obtain ⟨cs', hc, ht⟩ := hi i (by omega)
      obtain rfl : sp = none := by
        obtain ⟨cs0, hc0, _⟩ := hi 0 (by omega)
        rw [t_cells42] at hc0
        obtain ⟨_, hcl0, hat0⟩ := World.cells?_some hc0
        have h0 := hat0 0 (by omega)
        rw [List.getElem?_eq_getElem (by omega)] at h0
        rw [Nat.zero_mul] at h0
        exact plain_of_cell h0
      obtain ⟨n, kp, kc, rfl, hr, hw⟩ := step_open ht
      rw [t_cells42] at hc
      obtain ⟨_, hcl, hat⟩ := World.cells?_some hc
      refine ⟨n, ⟨kp, kc, rfl, fun j u hu => ?_, hr⟩, hw⟩
      have hj : j < 6 := by have := (List.getElem?_eq_some_iff.1 hu).1; simpa [lyS, Sv.cells] using this
      have e := hat j hj
      simp only [add_plain] at e
      rw [e]
      exact hu)
    subst hnl
    refine ⟨some ⟨b, o, sp⟩, m, ns, rfl, hl, fun i n hn => ?_, fun hw => ⟨?_, fun n hn => ?_⟩⟩
    · obtain ⟨⟨kp, kc, rfl, hp, hr⟩, _⟩ := hat i n hn
      exact ⟨b, o, kp, kc, rfl, hp, hr⟩
    · subst hx
      have := hw ((ns.length + (m - ns.length)) * 64) (by
        simp only [DataW.weights, Tryd.underlying46, List.length_map, List.length_range, t_bytes42]
        exact List.mem_cons_self ..)
      have h2 : ns.length + (m - ns.length) = m := by omega
      rw [h2] at this
      omega
    · obtain ⟨i, hin⟩ := List.mem_iff_getElem?.1 hn
      have hlt := (List.getElem?_eq_some_iff.1 hin).1
      refine (hat i n hin).2 fun u hu => hw u ?_
      subst hx
      simp only [DataW.weights, Tryd.underlying46]
      refine List.mem_cons_of_mem _ (List.mem_append_left _ (weights_all (d := D i) ?_ u hu))
      exact List.mem_map.2 ⟨i, List.mem_range.2 hlt, rfl⟩

end
end Go.Proofs.YtjmfjlffcopnnaaDoor
