/-
  Steps that are read as data lie in memory as the walks want them. No condition.
-/
import Derived.Test.YtdhkjhdbaofdcaaTro
import Derived.Test.YtdhkjhdbaofdcaaStA
namespace Go.Proofs.Ytdhkjhdbaofdcaa
open Go.ChangeShapes Go.WideShapes Go.ChangeAt Go.RowKit Go.Deep

theorem t_cells42 : Try.prog.cellsOf 42 = 6 := by kernel_rfl
theorem t_bytes42 : Try.prog.bytesOf 42 = 64 := by kernel_rfl
instance : Inhabited St := ⟨⟨0, 0, 0, 0, 0, []⟩⟩

section
variable {H : Type} {enc : TypeId × Value → H} {w : World} {base : Nat} {held : Bool}

set_option maxRecDepth 100000 in
theorem step_open {fuel : Nat} {cs : List Value} {x : DataW H × List MemPlace} (h : DataW.trod enc Try.prog w base (fun _ => true) held fuel 42 cs = some x) :
    ∃ (n : St) (kp : Option Addr) (kc : Nat), cs = Sv.cells ⟨n.kd, n.id, n.nd, n.fr, St.to n, kp, n.kids.length, kc⟩ ∧ lyI.Row w kp n.kids ∧ (Lite 42 x.1 → n.kids.length * 8 ≤ reachBytes) := by
  obtain ⟨ys, n', _, hx, hcl, hyl, hf⟩ := DataW.trod_struct Try.underlying42 h
  rw [t_cells42] at hcl
  match cs, hcl with
  | [c0, c1, c2, c3, c4, c5], _ =>
    have hyl3 : ys.length = 6 := hyl
    match ys, hyl3 with
    | [y0, y1, y2, y3, y4, y5], _ =>
      have g0 := hf 0 _ rfl
      have g1 := hf 1 _ rfl
      have g2 := hf 2 _ rfl
      have g3 := hf 3 _ rfl
      have g4 := hf 4 _ rfl
      have g5 := hf 5 _ rfl
      obtain ⟨a0, h0, _⟩ := DataW.trod_int Try.underlying3 g0
      obtain ⟨a1, h1, _⟩ := DataW.trod_int Try.underlying3 g1
      obtain ⟨a2, h2, _⟩ := DataW.trod_int Try.underlying3 g2
      obtain ⟨a3, h3, _⟩ := DataW.trod_int Try.underlying3 g3
      obtain ⟨a4, h4, _⟩ := DataW.trod_int Try.underlying3 g4
      obtain ⟨kp, kc, ks, h5, _, hr, hw⟩ := ints_open g5
      simp [t_cells3, t_cellsK] at h0 h1 h2 h3 h4 h5
      subst h0; subst h1; subst h2; subst h3; subst h4; subst h5
      refine ⟨⟨a0, a1, a2, a3, a4, ks⟩, kp, kc, rfl, hr, fun hl => hw fun m hm => ?_⟩
      subst hx
      refine hl m ?_
      simp only [DataW.weights, Try.underlying42]
      exact DataW.weights_mem_each (j := 5) rfl rfl m hm

set_option maxRecDepth 100000 in
theorem steps_open {fuel : Nat} {cs : List Value} {x : DataW H × List MemPlace} (h : DataW.trod enc Try.prog w base (fun _ => true) held fuel 25 cs = some x) :
    ∃ (p : Option Addr) (cap : Nat) (ns : List St), cs = [.slice p ns.length cap] ∧ ns.length ≤ cap ∧ StepsR w p ns ∧ (Lite 25 x.1 → ns.length * 64 ≤ reachBytes ∧ ∀ n ∈ ns, n.kids.length * 8 ≤ reachBytes) := by
  rcases open_slice Try.underlying25 h with ⟨h0, _⟩ | ⟨a, len, cap, m, k, D, Pl, hcs, _, hl, _, hmm, hx, hi⟩
  · subst h0
    exact ⟨none, 0, [], rfl, Nat.le_refl _, fun i n hn => by simp at hn, fun _ => ⟨by simp, by simp⟩⟩
  · obtain rfl : m = cap := by rw [hmm]; simp
    subst hcs
    obtain ⟨b, o, sp⟩ := a
    obtain ⟨ns, hnl, hat⟩ := list_of (P := fun i (c : St) => (∃ kp kc, sp = none ∧ lyS.At w b (o + i * 6) ⟨c.kd, c.id, c.nd, c.fr, St.to c, kp, c.kids.length, kc⟩ ∧ lyI.Row w kp c.kids) ∧ (Lite 42 (D i) → c.kids.length * 8 ≤ reachBytes)) len (fun i hil => by
      obtain ⟨cs', hc, ht⟩ := hi i (by omega)
      obtain rfl : sp = none := by
        obtain ⟨cs0, hc0, _⟩ := hi 0 (by omega)
        rw [t_cells42] at hc0
        obtain ⟨_, hcl0, hat0⟩ := World.cells?_some hc0
        have h0 := hat0 0 (by omega)
        rw [List.getElem?_eq_getElem (by omega)] at h0
        rw [Nat.zero_mul] at h0
        exact plain_of_cell h0
      obtain ⟨n, kp, kc, rfl, hr, hw⟩ := step_open ht
      rw [t_cells42] at hc
      obtain ⟨_, hcl, hat⟩ := World.cells?_some hc
      refine ⟨n, ⟨kp, kc, rfl, fun j u hu => ?_, hr⟩, hw⟩
      have hj : j < 6 := by have := (List.getElem?_eq_some_iff.1 hu).1; simpa [lyS, Sv.cells] using this
      have e := hat j hj
      simp only [add_plain] at e
      rw [e]
      exact hu)
    subst hnl
    refine ⟨some ⟨b, o, sp⟩, m, ns, rfl, hl, fun i n hn => ?_, fun hw => ⟨?_, fun n hn => ?_⟩⟩
    · obtain ⟨⟨kp, kc, rfl, hp, hr⟩, _⟩ := hat i n hn
      exact ⟨b, o, kp, kc, rfl, hp, hr⟩
    · subst hx
      have := hw ((ns.length + (m - ns.length)) * 64) (by
        simp only [DataW.weights, Try.underlying25, List.length_map, List.length_range, t_bytes42]
        exact List.mem_cons_self ..)
      have h2 : ns.length + (m - ns.length) = m := by omega
      rw [h2] at this
      omega
    · obtain ⟨i, hin⟩ := List.mem_iff_getElem?.1 hn
      have hlt := (List.getElem?_eq_some_iff.1 hin).1
      refine (hat i n hin).2 fun u hu => hw u ?_
      subst hx
      simp only [DataW.weights, Try.underlying25]
      refine List.mem_cons_of_mem _ (List.mem_append_left _ (weights_all (d := D i) ?_ u hu))
      exact List.mem_map.2 ⟨i, List.mem_range.2 hlt, rfl⟩

end
end Go.Proofs.Ytdhkjhdbaofdcaa
