/-
  Srt, Dtr, in one text. Conditions: as each theorem's premises say.
-/
import Derived.Test.YtdhkjhdbaofdcaaShl
import Derived.Test.YtdhkjhdbaofdcaaMpB
import Derived.Test.YtdhkjhdbaofdcaaDrB
import Derived.Shelf.SlSortCmp.NoneTotal
namespace Go.Proofs.Ytdhkjhdbaofdcaa
open Go.RowKit

open Go.Sort (flatK HoldsK putRowK SWO PermIn SortedIn)

/-- A node's cells, its id within bounds. -/
structure NvI where
  v : Nv
  b : 0 ≤ v.id ∧ v.id < 16777216
instance : Inhabited NvI := ⟨⟨⟨0, 0, 0, 0, none, 0, 0⟩, by decide⟩⟩
def encI (x : NvI) : List Value := Nv.cells x.v
def cfI (x y : NvI) : Int := x.v.id - y.v.id
theorem ltI (x y : NvI) : ltOf cfI x y = decide (x.v.id < y.v.id) := by
  unfold ltOf cfI
  rw [Bool.eq_iff_iff]
  simp
  omega
theorem swoI : SWO (ltOf cfI) where
  irrefl x := by rw [ltI]; simp
  trans x y z h1 h2 := by rw [ltI] at *; simp at *; omega
  ntrans x y z h1 h2 := by rw [ltI] at *; simp at *; omega
theorem encI_len (x : NvI) : (encI x).length = 5 := rfl
theorem encI_one (x : NvI) : ∀ v ∈ encI x, v.oneCell' = true := fun v hv => lyN.one x.v v hv

set_option maxHeartbeats 1000000 in
theorem byIds_any (x y : NvI) (W : World) : Calls Try.prog 55 #[.agg #[.int .i64 x.v.id, .int .i64 x.v.kd, .int .i64 x.v.fr, .int .i64 x.v.tt, .slice x.v.kp x.v.kn x.v.kc], .agg #[.int .i64 y.v.id, .int .i64 y.v.kd, .int .i64 y.v.fr, .int .i64 y.v.tt, .slice y.v.kp y.v.kn y.v.kc]] W fun e w' => e = .returned (.int .i64 (cfI x y)) ∧ ∃ q os', w' = Go.Sort.grow (W.drewN q) os' := by
  obtain ⟨x, hx0, hx1⟩ := x
  obtain ⟨y, hy0, hy1⟩ := y
  unfold cfI
  dsimp only
  have hw : IntKind.i64.wrap (x.id - y.id) = x.id - y.id := IntWalk.i64_in _ (by omega)
  go_enter Try.func55, Try.ntmps55
  go_wp2_with fail
  go_ret
  exact ⟨rfl, 0, _, by rw [Go.Sort.alloc_eq_grow, Go.Sort.alloc_eq_grow, Go.Sort.grow_grow]; rfl⟩
theorem cmpI (blk off size : Nat) (w : World) : CmpLays Try.prog 55 #[] encI 5 cfI blk off size w := fun _ _ _ _ x y => byIds_any x y _

theorem bounded_list : ∀ (vs : List Nv), (∀ v ∈ vs, 0 ≤ v.id ∧ v.id < 16777216) → ∃ dl : List NvI, dl.map (·.v) = vs
  | [], _ => ⟨[], rfl⟩
  | v :: vs, h => by
    obtain ⟨dl, hd⟩ := bounded_list vs (fun u hu => h u (List.mem_cons_of_mem _ hu))
    exact ⟨⟨v, h v (by simp)⟩ :: dl, by rw [List.map_cons, hd]⟩
theorem get_bang (d : Array NvI) (i : Nat) (h : i < d.size) : (d.toList.map (·.v))[i]? = some (d[i]!).v := by
  rw [List.getElem?_map, Array.getElem?_toList, Array.getElem?_eq_getElem h, getElem!_pos d i h]
  rfl
theorem flat_get (d : Array NvI) (t : Nat) (h : t < d.size * 5) : (lyN.all (d.toList.map (·.v)))[t]? = some (flatK encI 5 d)[t]! := by
  rw [Go.Sort.get_flatK encI 5 d t h]
  have hi : t / 5 < d.size := by omega
  have hj : t % 5 < 5 := Nat.mod_lt _ (by decide)
  have h1 := get_bang d (t / 5) hi
  generalize d[t / 5]! = x at h1 ⊢
  have hlx : t % 5 < (encI x).length := by rw [encI_len]; exact hj
  have h2 : (lyN.cells x.v)[t % 5]? = some (encI x)[t % 5]! := by
    show (encI x)[t % 5]? = _
    rw [List.getElem?_eq_getElem hlx, getElem!_pos (encI x) (t % 5) hlx]
  have h3 := all_get (L := lyN) h1 h2
  have e : t / 5 * lyN.sz + t % 5 = t := by
    show t / 5 * 5 + t % 5 = t
    omega
  rwa [e] at h3
theorem holds_own {w : World} {base g cap : Nat} (d : Array NvI) (h : lyN.Own w base (.slice (some ⟨g, 0, none⟩) d.size cap) (d.toList.map (·.v))) : HoldsK encI 5 w g 0 d := by
  intro t ht
  rw [Go.Sort.size_flatK] at ht
  refine ⟨?_, h.frozen _⟩
  have := World.ownsRow.cells h (g := g) rfl t _ (flat_get d t ht)
  rw [add_plain] at this
  exact this
theorem put_get (F cur : Array Value) (t : Nat) (h : t < cur.size) : (Go.Sort.putCells id 0 F cur)[t]? = if t < F.size then some F[t]! else cur[t]? := by
  unfold Go.Sort.putCells
  rw [Array.getElem?_mapIdx, Array.getElem?_eq_getElem h]
  by_cases ht : t < F.size
  · simp [ht]
  · simp [ht]
theorem sorted_heap (w : World) (g n : Nat) (d : Array NvI) (os : Array Obj) (cur : Array Value) (h : w.heap[g]? = some (.cells cur 46 (0, 0))) : (sortWorldK encI 5 w g 0 n d os).heap[g]? = some (.cells (Go.Sort.putCells id 0 (flatK encI 5 d) cur) 46 (0, 0)) := by
  have hl := (Array.getElem?_eq_some_iff.1 h).1
  show ((w.heap.modify g (Go.Sort.onCells (Go.Sort.putCells id 0 (flatK encI 5 d)))) ++ os)[g]? = _
  rw [Array.getElem?_append_left (by rw [Array.size_modify]; exact hl), Array.getElem?_modify, if_pos rfl, h]
  rfl
theorem sorted_grown (w : World) (g n : Nat) (d : Array NvI) (os : Array Obj) : w.grownBy (sortWorldK encI 5 w g 0 n d os) (some g) := by
  refine ⟨rfl, rfl, rfl, ?_, fun k hk hne => ?_⟩
  · show w.heap.size ≤ ((w.heap.modify g (Go.Sort.onCells (Go.Sort.putCells id 0 (flatK encI 5 d)))) ++ os).size
    rw [Array.size_append, Array.size_modify]
    omega
  · show ((w.heap.modify g (Go.Sort.onCells (Go.Sort.putCells id 0 (flatK encI 5 d)))) ++ os)[k]? = _
    rw [Array.getElem?_append_left (by rw [Array.size_modify]; exact hk), Array.getElem?_modify, if_neg (fun e => hne (by rw [e]))]
theorem own_sorted {w : World} {base g cap n : Nat} {d d' : Array NvI} {os : Array Obj} (h : lyN.Own w base (.slice (some ⟨g, 0, none⟩) d.size cap) (d.toList.map (·.v))) (hs : d'.size = d.size) : lyN.Own (sortWorldK encI 5 w g 0 n d' os) base (.slice (some ⟨g, 0, none⟩) d.size cap) (d'.toList.map (·.v)) := by
  have hl : (d'.toList.map (·.v)).length = d.size := by simp [hs]
  have hl0 : (d.toList.map (·.v)).length = d.size := by simp
  unfold Ly.Own at h ⊢
  rw [hl0] at h
  rw [hl]
  refine ⟨by rw [all_len, hl], ?_⟩
  rcases h.2 with ⟨hv, _⟩ | ⟨g', cap', cur, hv, hb, hg, hnc, hm, hsz, ht⟩
  · cases hv
  · cases hv
    refine .inr ⟨g, cap, _, rfl, hb, sorted_heap w g n d' os cur hg, hnc, hm, by unfold Go.Sort.putCells; simpa using hsz, ?_⟩
    have hsz5 : cur.size = cap * 5 := hsz
    have e5 : d.size * lyN.sz = d.size * 5 := rfl
    refine List.ext_getElem? fun t => ?_
    by_cases hlt : t < d.size * 5
    · have htc : t < cur.size := by omega
      rw [List.getElem?_take_of_lt (show t < d.size * lyN.sz from hlt), Array.getElem?_toList, put_get _ _ _ htc, if_pos (by rw [Go.Sort.size_flatK, hs]; exact hlt), flat_get d' t (by rw [hs]; exact hlt)]
    · rw [List.getElem?_eq_none (by rw [List.length_take]; omega), List.getElem?_eq_none (by rw [all_len, hl]; omega)]
theorem enter55 : ∀ args w, (callFunc 55 args).run Try.prog w = .ok (.enter 55 args) w := enters_of Try.func55 (by kernel_rfl) rfl

/-- What sorting answers. -/
def SortP (base g cap : Nat) (vs : List Nv) (w : World) (e : Ending) (w' : World) : Prop := e = .returned (.tuple #[]) ∧ ∃ us, us.Perm vs ∧ us.Pairwise (fun a b => a.id ≤ b.id) ∧ lyN.Own w' base (.slice (some ⟨g, 0, none⟩) vs.length cap) us ∧ w.grownBy w' (some g)
theorem sortN_any (base g cap : Nat) (vs : List Nv) (hb : ∀ v ∈ vs, 0 ≤ v.id ∧ v.id < 16777216) (w : World) (hO : lyN.Own w base (.slice (some ⟨g, 0, none⟩) vs.length cap) vs) (hsz : vs.length < 4611686018427387904) : Calls Try.prog 68 #[.slice (some ⟨g, 0, none⟩) vs.length cap, .func (.func 55) #[] #[]] w (SortP base g cap vs w) := by
  obtain ⟨dl, hd⟩ := bounded_list vs hb
  have hd2 : (dl.toArray.toList.map (·.v)) = vs := hd
  have hl : vs.length = dl.toArray.size := by rw [← hd2]; simp
  have hO2 : lyN.Own w base (.slice (some ⟨g, 0, none⟩) dl.toArray.size cap) (dl.toArray.toList.map (·.v)) := by rw [hd2, ← hl]; exact hO
  generalize dl.toArray = d at hd2 hl hO2
  have hg : g < w.heap.size := (Ly.Own.lt hO (g := g) rfl).2
  have hcon := AnyQ.slices_SortFunc Try.sortN 5 Try.isAgg46 Try.sizeOf46 encI encI_len encI_one cfI swoI 55 #[] g 0 cap d w enter55 (cmpI g 0 d.size w) (holds_own d hO2) hg (by rw [← hl]; exact hsz)
  change Calls Try.prog 68 _ _ _ at hcon
  rw [← hl] at hcon
  refine hcon.mono ?_
  rintro e w' ⟨rfl, d', n, os, hp, hs, rfl⟩
  have hps : d'.size = d.size := by rw [hp.1]
  refine ⟨rfl, d'.toList.map (·.v), ?_, ?_, ?_, sorted_grown w g n d' os⟩
  · have h3 := hp.2.2
    have e1 : d'.extract 0 vs.length = d' := by rw [hl, ← hps]; exact Array.extract_size
    have e2 : d.extract 0 vs.length = d := by rw [hl]; exact Array.extract_size
    rw [e1, e2] at h3
    rw [← hd2]
    exact h3.map _
  · rw [List.pairwise_iff_getElem]
    intro i j hi hj hij
    have hi' : i < d'.size := by simpa using hi
    have hj' : j < d'.size := by simpa using hj
    have h4 := hs i j (Nat.zero_le _) hij (by rw [hl, ← hps]; exact hj')
    rw [ltI] at h4
    have h5 := of_decide_eq_false h4
    have gi := get_bang d' i hi'
    have gj := get_bang d' j hj'
    rw [List.getElem?_eq_getElem hi] at gi
    rw [List.getElem?_eq_getElem hj] at gj
    rw [Option.some.inj gi, Option.some.inj gj]
    omega
  · have := own_sorted (n := n) (os := os) (d' := d') hO2 hps
    rw [hl]
    exact this

/-- What SortedFunc answers: the draft's nodes, by their ids. -/
def SfP (vs0 : List Nv) (w : World) (e : Ending) (w' : World) : Prop := ∃ p cap us, e = .returned (.slice p us.length cap) ∧ us.Perm vs0 ∧ us.Pairwise (fun a b => a.id ≤ b.id) ∧ lyN.Own w' w.heap.size (.slice p us.length cap) us ∧ Bl w w'
set_option maxRecDepth 100000 in
set_option maxHeartbeats 1000000 in
theorem sorted_any (Bm b : Nat) (vs0 : List Nv) (hb : ∀ v ∈ vs0, 0 ≤ v.id ∧ v.id < 16777216) (hl : vs0.length ≤ 1000000) (w : World) (hm : w.cell? ⟨Bm, 0, none⟩ = some (.map (some b))) (hown : MapS w b vs0) : Calls Try.prog 53 #[.func (.func 69) #[] #[.pointer (some ⟨Bm, 0, none⟩)], .func (.func 55) #[] #[]] w (SfP vs0 w) := by
  have COL := Lib.hid (callsIn_wide.1 (collect_in Fence.wide 5 trivial trivial rfl (by decide) 69 #[.pointer (some ⟨Bm, 0, none⟩)] trivial (enters_of Try.func69 (by kernel_rfl) rfl) (fun vs => vs.Perm vs0) vs0.length hl w (values_gives Fence.wide 3 trivial rfl (by decide) Bm b vs0 w (World.block_lt_of_cell? w ⟨Bm, 0, none⟩ hm) hm hown)))
  have HB := Lib.hid hb
  clear hm hown hb
  go_enter Try.func53, Try.ntmps53
  go_upto_region 2 with (go_at_call 67; refine COL.out.mono ?_; rintro e w1 ⟨v, ss, rfl, hS, hrow, hb1⟩; have S := Lib.hid hS; have R := Lib.hid hrow; have B := Lib.hid hb1; clear hS hrow hb1)
  have LS : Hid (ss.length ≤ 1000000) := Lib.hid (by rw [S.out.length_eq]; exact hl)
  have BS : Hid (∀ v ∈ ss, 0 ≤ v.id ∧ v.id < 16777216) := Lib.hid (fun v hv => HB.out v (S.out.mem_iff.1 hv))
  obtain ⟨p, cap, rfl⟩ := R.out.form
  clear COL
  by_cases h0 : ss.length = 0
  · have NO := Lib.hid (fun W => AnyF.slices_SortFunc_none (P := Try.prog) (ρ := Try.sortN_ren) Try.sortN p cap (.func (.func 55) #[] #[]) W)
    have e0 : ss = [] := List.eq_nil_of_length_eq_zero h0
    subst e0
    go_wp2_with (go_at_call 68; refine (NO.out _).mono ?_; rintro e w2 ⟨rfl, rfl⟩)
    go_ret
    exact ⟨p, cap, [], rfl, S.out, List.Pairwise.nil, R.out, B.out⟩
  · obtain ⟨g, cap', hv, hbg, hgl, -⟩ := R.out.formS (fun e => h0 (by rw [e]; rfl))
    cases hv
    have SO := Lib.hid (sortN_any w.heap.size g cap ss BS.out w1 R.out (by have := LS.out; omega))
    go_wp2_with (go_at_call 68; refine SO.out.mono ?_; rintro e w2 ⟨rfl, us, hp, hpw, ho, hg⟩; have P := Lib.hid hp; have W := Lib.hid hpw; have O := Lib.hid ho; have G := Lib.hid hg; clear hp hpw ho hg)
    go_ret
    refine ⟨some ⟨g, 0, none⟩, cap, us, by rw [P.out.length_eq]; rfl, P.out.trans S.out, W.out, by rw [P.out.length_eq]; exact O.out, ?_⟩
    exact B.out.trans (below_grown G.out hbg B.out.size)

theorem rises_pair : ∀ {ns : List Nd}, risesB ns = true → (ns.map Nd.id).Pairwise (fun a b => a ≤ b)
  | [], _ => List.Pairwise.nil
  | x :: r, h => by
    obtain ⟨h1, h2⟩ := rises_cons.1 h
    rw [List.map_cons, List.pairwise_cons]
    refine ⟨fun k hk => ?_, rises_pair h2⟩
    obtain ⟨y, hy, rfl⟩ := List.mem_map.1 hk
    exact Int.le_of_lt (h1 y hy)
theorem drN_perm {w0 : World} {l : List Nv} {ns : List Nd} (hE : DrN w0 l ns) (hr : risesB ns = true) : (l.map Nv.id).Perm (ns.map Nd.id) := by
  refine (List.perm_ext_iff_of_nodup hE.nod (rises_nodup hr)).2 fun k => ⟨fun hk => ?_, fun hk => ?_⟩
  · obtain ⟨v, hv, rfl⟩ := List.mem_map.1 hk
    obtain ⟨m, hm, hp⟩ := hE.fit v hv
    exact List.mem_map.2 ⟨m, hm, hp.1.symm⟩
  · obtain ⟨m, hm, rfl⟩ := List.mem_map.1 hk
    obtain ⟨v, hv, he⟩ := hE.mem m hm
    exact List.mem_map.2 ⟨v, hv, he⟩
theorem drN_len {w0 : World} {l : List Nv} {ns : List Nd} (hE : DrN w0 l ns) (hr : risesB ns = true) : l.length = ns.length := by
  have := (drN_perm hE hr).length_eq
  simpa using this
theorem id_same {ns : List Nd} (hr : risesB ns = true) {m y : Nd} (hm : m ∈ ns) (hy : y ∈ ns) (h : m.id = y.id) : m = y := by
  obtain ⟨i, hi, e⟩ := List.getElem_of_mem hm
  have hx : ns[i]? = some m := by rw [List.getElem?_eq_getElem hi, e]
  obtain ⟨a, b⟩ := rise_ne hr hx
  obtain ⟨h1, -⟩ := split_at hx
  rw [h1] at hy
  rcases List.mem_append.1 hy with hy | hy
  · exact absurd h.symm (a y hy)
  · rcases List.mem_cons.1 hy with rfl | hy
    · rfl
    · exact absurd h.symm (b y hy)
/-- Sorted by ids, the draft's nodes stand each at its node's place. -/
theorem drN_match {w0 : World} {l us : List Nv} {ns : List Nd} (hE : DrN w0 l ns) (hr : risesB ns = true) (hp : us.Perm l) (hs : us.Pairwise (fun a b => a.id ≤ b.id)) : us.length = ns.length ∧ ∀ (i : Nat) v m, us[i]? = some v → ns[i]? = some m → PairR w0 v m := by
  have pn : (us.map Nv.id).Perm (ns.map Nd.id) := (hp.map Nv.id).trans (drN_perm hE hr)
  have pu : (us.map Nv.id).Pairwise (fun a b => a ≤ b) := List.pairwise_map.2 hs
  have e : us.map Nv.id = ns.map Nd.id := List.Perm.eq_of_pairwise (le := fun a b => a ≤ b) (fun a b _ _ h1 h2 => Int.le_antisymm h1 h2) pu (rises_pair hr) pn
  refine ⟨by have := congrArg List.length e; simpa using this, fun i v m hv hm => ?_⟩
  have hi : v.id = m.id := by
    have := congrArg (fun (x : List Int) => x[i]?) e
    simp only [List.getElem?_map, hv, hm, Option.map_some] at this
    exact Option.some.inj this
  obtain ⟨y, hy, hq⟩ := hE.fit v (hp.mem_iff.1 (List.mem_of_getElem? hv))
  have : y = m := id_same hr hy (List.mem_of_getElem? hm) (hq.1.symm.trans hi)
  exact this ▸ hq

/-- What tree answers. -/
def DtP (w0 : World) (root nx : Int) (N : Nat) (ns : List Nd) (w : World) (e : Ending) (w' : World) : Prop := ∃ p cap us, e = .returned (.agg #[.int .i64 root, .int .i64 nx, .slice p N cap]) ∧ lyN.Own w' w.heap.size (.slice p N cap) us ∧ (∀ (i : Nat) v m, us[i]? = some v → ns[i]? = some m → PairR w0 v m) ∧ Bl w w'

set_option maxRecDepth 100000 in
set_option maxHeartbeats 2000000 in
theorem dtree_any (w0 w : World) (base db b : Nat) (root nx : Int) (l : List Nv) (ns : List Nd) (N : Nat) (hN : ns.length = N) (h : DrS w base db b root nx l) (hE : DrN w0 l ns) (hr : risesB ns = true) (hb : ∀ m ∈ ns, 0 ≤ m.id ∧ m.id < 16777216) (hl : N ≤ 1000000) : Calls Try.prog 23 #[.pointer (some ⟨db, 0, none⟩)] w (DtP w0 root nx N ns w) := by
  have BL : Hid (∀ v ∈ l, 0 ≤ v.id ∧ v.id < 16777216) := Lib.hid (fun v hv => by
    obtain ⟨m, hm, hp⟩ := hE.fit v hv
    rw [hp.1]; exact hb m hm)
  have LL : Hid (l.length ≤ 1000000) := Lib.hid (by rw [drN_len hE hr, hN]; exact hl)
  have E := Lib.hid hE; have HR := Lib.hid hr; have HN := Lib.hid hN
  have D1 : Hid (DrS (w.alloc (.cells #[.int .i64 0, .int .i64 0, .slice none 0 0] 24)) base db b root nx l) := Lib.hid (h.later (Bl.alloc (Bl.refl _) _))
  have B1 : Hid (Bl w (w.alloc (.cells #[.int .i64 0, .int .i64 0, .slice none 0 0] 24))) := Lib.hid (Bl.alloc (Bl.refl _) _)
  have R1 : Hid ((w.alloc (.cells #[.int .i64 0, .int .i64 0, .slice none 0 0] 24)).heap[w.heap.size]? = some (.cells #[.int .i64 0, .int .i64 0, .slice none 0 0] 24 (0, 0))) := Lib.hid (heap_new rfl _ _)
  clear h hE hr hb hN
  go_enter Try.func23, Try.ntmps23
  go_upto_region 1 with fail
  generalize (w.alloc (.cells #[.int .i64 0, .int .i64 0, .slice none 0 0] 24)) = w1 at D1 B1 R1 ⊢
  obtain ⟨rb, hrb⟩ : ∃ g, g = w.heap.size := ⟨_, rfl⟩
  rw [← hrb] at R1 ⊢
  have HRB : Hid (w.heap.size ≤ rb) := Lib.hid (by omega)
  clear hrb
  have d2 := (obj_cells D1.out.obj).1 2 _ rfl
  have VA := Lib.hid (callsIn_wide.1 (values_in Fence.wide 5 trivial rfl (some b) w1))
  have B2 : Hid (Bl w1 (w1.alloc (.cells #[.map (some b)] 83))) := Lib.hid (Bl.alloc (Bl.refl _) _)
  have SF := Lib.hid (sorted_any w1.heap.size b l BL.out LL.out (w1.alloc (.cells #[.map (some b)] 83)) ((obj_cells (heap_new rfl _ _)).1 0 _ rfl) (D1.out.later B2.out).map)
  go_upto_region 2 with (first | (go_at_call 54; refine VA.out.mono ?_; rintro e w2 ⟨rfl, rfl⟩) | (go_at_call 53; refine SF.out.mono ?_; rintro e w3 ⟨p, cap, us, rfl, hp, hs, ho, hb3⟩; have P := Lib.hid hp; have S := Lib.hid hs; have O := Lib.hid ho; have B3 := Lib.hid hb3; clear hp hs ho hb3))
  have MT := Lib.hid (drN_match E.out HR.out P.out S.out)
  have LU : Hid (us.length = N) := Lib.hid (by rw [MT.out.1, HN.out])
  rw [LU.out] at O ⊢
  have O3 := Lib.hid (O.out.mono (show w.heap.size ≤ (w1.alloc (.cells #[.map (some b)] 83)).heap.size from Nat.le_trans B1.out.size B2.out.size))
  have D3 := Lib.hid (D1.out.later (B2.out.call B3.out))
  have R3 := Lib.hid (heap_later R1.out (B2.out.call B3.out))
  have BW := Lib.hid (B1.out.call (B2.out.call B3.out))
  clear d2 VA SF D1 R1 B1 B2 B3 O P S
  have d0 := (obj_cells D3.out.obj).1 0 _ rfl; have d1 := (obj_cells D3.out.obj).1 1 _ rfl
  have dl : db < w3.heap.size := (obj_cells D3.out.obj).2.2
  have r0 := (obj_cells R3.out).1 0 _ rfl; have r1 := (obj_cells R3.out).1 1 _ rfl; have r2 := (obj_cells R3.out).1 2 _ rfl
  have rf := (obj_cells R3.out).2.1
  have rl : rb < w3.heap.size := (obj_cells R3.out).2.2
  go_region
  all_goals
    go_wp2_with fail
    refine bodyPost_ret (v := .agg #[.int .i64 root, .int .i64 nx, .slice p N cap]) (by rw [results_cell1 rfl]; go_simp) rfl ?_
    have g2 := setAll_one w3 rb 0 [.int .i64 root, .int .i64 nx, .slice p N cap]
    exact ⟨p, cap, us, rfl, (O3.out.kept g2 (own_ne O3.out R3.out (fun cur e => by cases e))).below (below_drew (Below.refl _ _)), MT.out.2, Bl.drew (Bl.set (Bl.set (Bl.set BW.out HRB.out _) HRB.out _) HRB.out _)⟩

end Go.Proofs.Ytdhkjhdbaofdcaa
