/-
  MyM, My4, My5, My6, My7, My8, in one text. Conditions: as each theorem's premises say.
-/
import Derived.Test.YtjmfjlffcopnnaaGreatDoorPF11
import Derived.Test.YtjmfjlffcopnnaaGreatDoorPF14
namespace Go.Proofs.YtjmfjlffcopnnaaGreatDoor
open Go.RowKit

/-- All that is asked of a tree but what is reached. -/
def mayC (ns : List Nd) (root next size : Int) : Bool :=
  decide (1 ≤ ns.length) && decide (ns.length ≤ 2048) && decide (0 ≤ next) && decide (next ≤ 16777216) && decide (0 ≤ size) && decide (size ≤ 4096)
    && ns.all (nodeOk root next size) && risesB ns && ns.all (fun x => kidsOk ns (Nd.to x) x.fr x.kids)
    && (ns.countP (fun x => x.kd == 0) == 1) && ns.all (fun x => x.kd == 0 || (allKids ns).count x.id == 1)
theorem mayB_is (ns : List Nd) (root next size : Int) : mayB ns root next size = (mayC ns root next size && (reachN ns (ns.length + 1) root == ns.length)) := rfl

def kidsOf (ns : List Nd) (id : Int) : List Int := match getN ns id with
  | some x => x.kids
  | none => []
theorem sum_get_le (g : Nd → Nat) : ∀ (ns : List Nd) (S : List Int), S.Nodup → (S.map (fun id => match getN ns id with | some x => g x | none => 0)).sum ≤ (ns.map g).sum
  | [], S, _ => by
    have : ∀ S : List Int, (S.map (fun id => match getN [] id with | some x => g x | none => 0)).sum = 0 := by
      intro S
      induction S with
      | nil => rfl
      | cons a S ih => simp only [List.map_cons, List.sum_cons, ih]; rfl
    rw [this]; exact Nat.zero_le _
  | x :: r, S, hS => by
    have key : ∀ S : List Int, S.Nodup → (S.map (fun id => match getN (x :: r) id with | some x => g x | none => 0)).sum ≤ g x + (S.map (fun id => match getN r id with | some x => g x | none => 0)).sum := by
      intro S hS
      induction S with
      | nil => simp
      | cons a S ih =>
        obtain ⟨h1, h2⟩ := List.nodup_cons.1 hS
        simp only [List.map_cons, List.sum_cons]
        by_cases e : x.id = a
        · have same : S.map (fun id => match getN (x :: r) id with | some x => g x | none => 0) = S.map (fun id => match getN r id with | some x => g x | none => 0) := by
            apply List.map_congr_left
            intro b hb
            have : x.id ≠ b := fun h => h1 (by rw [← e, h]; exact hb)
            rw [get_cons, if_neg this]
          rw [same, get_cons, if_pos e]
          dsimp only
          omega
        · have := ih h2
          rw [get_cons, if_neg e]
          omega
    have h1 := key S hS
    have h2 := sum_get_le g r S hS
    rw [List.map_cons, List.sum_cons]
    omega
theorem reach_bound {ns : List Nd} (hf : ∀ x ∈ ns, ∀ c ∈ x.kids, ∃ z, getN ns c = some z) (hc : ∀ c, (allKids ns).count c ≤ 1) : ∀ (f : Nat) (S : List Int), S.Nodup → (∀ c ∈ S, ∃ z, getN ns c = some z) → (S.map (reachN ns f)).sum ≤ f * ns.length
  | 0, S, _, _ => by
    have : ∀ S : List Int, (S.map (reachN ns 0)).sum = 0 := by
      intro S
      induction S with
      | nil => rfl
      | cons a S ih => simp only [List.map_cons, List.sum_cons, ih]; rfl
    rw [this]; omega
  | f + 1, S, hS, hin => by
    have e : (S.map (reachN ns (f + 1))).sum = S.length + ((S.flatMap (kidsOf ns)).map (reachN ns f)).sum := by
      clear hS
      induction S with
      | nil => rfl
      | cons a S ih =>
        obtain ⟨z, hz⟩ := hin a (by simp)
        have ih := ih (fun c hc => hin c (by simp [hc]))
        have e1 : reachN ns (f + 1) a = 1 + ((kidsOf ns a).map (reachN ns f)).sum := by
          unfold kidsOf
          rw [hz]
          show (match getN ns a with | none => 0 | some x => 1 + (x.kids.map (reachN ns f)).sum) = _
          rw [hz]
        simp only [List.map_cons, List.sum_cons, List.flatMap_cons, List.map_append, List.sum_append, List.length_cons, ih, e1]
        omega
    have hcount : ∀ c, (S.flatMap (kidsOf ns)).count c ≤ 1 := by
      intro c
      have h1 := sum_get_le (fun x => x.kids.count c) ns S hS
      have h2 : (S.flatMap (kidsOf ns)).count c = (S.map (fun id => match getN ns id with | some x => x.kids.count c | none => 0)).sum := by
        clear hS hin e h1
        induction S with
        | nil => rfl
        | cons a S ih =>
          simp only [List.flatMap_cons, List.count_append, List.map_cons, List.sum_cons, ih]
          congr 1
          unfold kidsOf
          cases getN ns a <;> rfl
      have h3 : (allKids ns).count c = (ns.map (fun x => x.kids.count c)).sum := by
        unfold allKids
        rw [List.count_flatMap]; rfl
      have := hc c
      omega
    have hT := reach_bound hf hc f (S.flatMap (kidsOf ns)) (List.nodup_iff_count.2 hcount) (by
      intro c hcc
      obtain ⟨a, _, ha2⟩ := List.mem_flatMap.1 hcc
      unfold kidsOf at ha2
      cases hg : getN ns a with
      | none => rw [hg] at ha2; simp at ha2
      | some x => rw [hg] at ha2; exact hf x (get_some hg).1 c ha2)
    have hSl : S.length ≤ ns.length := by
      have := pigeon S (ns.map Nd.id) hS (fun c hcc => by
        obtain ⟨z, hz⟩ := hin c hcc
        obtain ⟨h1, h2⟩ := get_some hz
        exact List.mem_map.2 ⟨z, h1, h2⟩)
      simpa using this
    rw [e, Nat.succ_mul]
    omega

theorem up_rises : ∀ {ns : List Nd} {last l : Int}, upF last ns = some l → risesB ns = true ∧ (∀ x ∈ ns, last < x.id) ∧ (∀ x ∈ ns, x.id ≤ l) ∧ last ≤ l
  | [], last, l, h => by
    unfold upF at h
    injection h with h
    exact ⟨rfl, fun x hx => absurd hx (by simp), fun x hx => absurd hx (by simp), by omega⟩
  | x :: r, last, l, h => by
    unfold upF at h
    split at h
    · cases h
    · rename_i hlt
      obtain ⟨a, b, c, d⟩ := up_rises h
      refine ⟨rises_cons.2 ⟨b, a⟩, ?_, ?_, by omega⟩
      · intro y hy
        rcases List.mem_cons.1 hy with rfl | hy
        · omega
        · have := b y hy; omega
      · intro y hy
        rcases List.mem_cons.1 hy with rfl | hy
        · exact d
        · exact c y hy
theorem rises_up : ∀ {ns : List Nd} {last : Int}, risesB ns = true → (∀ x ∈ ns, last < x.id) → ∃ l, upF last ns = some l ∧ (l = last ∨ ∃ x ∈ ns, x.id = l)
  | [], last, _, _ => ⟨last, rfl, .inl rfl⟩
  | x :: r, last, h, h2 => by
    obtain ⟨h3, h4⟩ := rises_cons.1 h
    obtain ⟨l, h5, h6⟩ := rises_up (last := x.id) h4 h3
    have := h2 x (by simp)
    refine ⟨l, ?_, .inr ?_⟩
    · unfold upF
      rw [if_neg (by omega)]
      exact h5
    · rcases h6 with rfl | ⟨y, hy, e⟩
      · exact ⟨x, by simp, rfl⟩
      · exact ⟨y, by simp [hy], e⟩
theorem num_is {ns : List Nd} {next : Int} : numB ns next = true ↔ 1 ≤ ns.length ∧ ns.length ≤ 2048 ∧ next ≤ 16777216 ∧ risesB ns = true ∧ (∀ x ∈ ns, 0 ≤ x.id ∧ x.id < next) := by
  unfold numB
  constructor
  · intro h
    simp only [Bool.and_eq_true, decide_eq_true_eq] at h
    obtain ⟨⟨⟨h1, h2⟩, h3⟩, h4⟩ := h
    cases hu : upF (-1) ns with
    | none => rw [hu] at h4; cases h4
    | some l =>
      rw [hu] at h4
      have h5 : l < next := of_decide_eq_true h4
      obtain ⟨a, b, c, d⟩ := up_rises hu
      exact ⟨h1, h2, h3, a, fun x hx => ⟨by have := b x hx; omega, by have := c x hx; omega⟩⟩
  · rintro ⟨h1, h2, h3, h4, h5⟩
    obtain ⟨l, h6, h7⟩ := rises_up (last := -1) h4 (fun x hx => by have := (h5 x hx).1; omega)
    rw [h6]
    simp only [Bool.and_eq_true, decide_eq_true_eq]
    refine ⟨⟨⟨h1, h2⟩, h3⟩, ?_⟩
    rcases h7 with rfl | ⟨x, hx, rfl⟩
    · cases ns with
      | nil => simp at h1
      | cons y r =>
        have := h5 y (by simp)
        omega
    · exact (h5 x hx).2

theorem may_any (root next size : Int) (p : Option Addr) (ns : List Nd) (N cap : Nat) (hN : ns.length = N) (w : World) (h : NodesR w p ns) (hl : N ≤ 140737488355328) (hsm : ∀ x ∈ ns, x.kids.length ≤ 140737488355328) : Calls Tryz.prog 42 #[trV root next p N cap, .int .i64 size] w (RetBelow (.returned (.bool (mayP ns root next size))) w) := by
  by_cases hs : 0 ≤ size ∧ size ≤ 4096
  · cases hn : numB ns next with
    | false =>
      have := may_num root next size p ns N cap hN w h hl hs.1 hs.2 hn
      have e : mayP ns root next size = false := by unfold mayP; rw [hn]; simp
      rw [e]; exact this
    | true => exact may_go root next size p ns N cap hN w h hl hs.1 hs.2 hn (num_is.1 hn).2.2.2.1 hsm
  · have := may_size root next size p N cap w (by omega)
    have e : mayP ns root next size = false := by
      unfold mayP
      have : (decide (0 ≤ size) && decide (size ≤ 4096)) = false := by
        rw [Bool.and_eq_false_iff, decide_eq_false_iff_not, decide_eq_false_iff_not]; omega
      rw [this]; simp
    rw [e]; exact this

theorem fdI_spec {c : Int} : ∀ {L : List Nd} {k i : Nat}, fdI c L k = some i → k ≤ i ∧ ∃ y, L[i - k]? = some y ∧ y.id = c
  | [], _, _, h => by cases h
  | x :: r, k, i, h => by
    unfold fdI at h
    split at h
    · rename_i e
      injection h with h
      subst h
      exact ⟨Nat.le_refl _, x, by simp, e⟩
    · obtain ⟨a, y, b, e⟩ := fdI_spec h
      refine ⟨by omega, y, ?_, e⟩
      rw [show i - k = (i - (k + 1)) + 1 by omega, List.getElem?_cons_succ]
      exact b
theorem fdI_none {c : Int} : ∀ {L : List Nd} {k : Nat}, fdI c L k = none → ∀ y ∈ L, y.id ≠ c
  | [], _, _, y, hy => absurd hy (by simp)
  | x :: r, k, h, y, hy => by
    unfold fdI at h
    split at h
    · cases h
    · rename_i e
      rcases List.mem_cons.1 hy with rfl | hy
      · exact e
      · exact fdI_none h y hy
theorem erase_perm : ∀ {L : List Nd} {i : Nat} {y : Nd}, L[i]? = some y → (y :: L.eraseIdx i).Perm L
  | [], _, _, h => by simp at h
  | x :: r, 0, y, h => by
    simp only [List.getElem?_cons_zero, Option.some.injEq] at h
    subst h
    exact .refl _
  | x :: r, i + 1, y, h => by
    rw [List.getElem?_cons_succ] at h
    exact (List.Perm.swap x y _).trans ((erase_perm h).cons x)
/-- Children one behind the other, below a node that ends at tt. -/
def chainK (tt : Int) : Int → List Nd → Prop
  | _, [] => True
  | last, y :: r => badK last tt y = false ∧ chainK tt (Nd.to y) r
theorem takeN_spec {tt : Int} : ∀ {cs : List Int} {last : Int} {L ks L' : List Nd}, takeN tt last cs L = some (ks, L') → ks.map Nd.id = cs ∧ (ks ++ L').Perm L ∧ chainK tt last ks
  | [], _, L, ks, L', h => by
    unfold takeN at h
    injection h with h
    injection h with h1 h2
    subst h1; subst h2
    exact ⟨rfl, .refl _, trivial⟩
  | c :: cs, last, L, ks, L', h => by
    cases h1 : fdI c L 0 with
    | none => rw [takeN_none h1] at h; cases h
    | some i =>
      obtain ⟨-, y, h2, e⟩ := fdI_spec h1
      rw [Nat.sub_zero] at h2
      rw [takeN_some h1 h2] at h
      split at h
      · cases h
      · rename_i hb
        obtain ⟨r, h3, h4⟩ := Option.map_eq_some_iff.1 h
        injection h4 with h5 h6
        subst h5; subst h6
        obtain ⟨a, b, d⟩ := takeN_spec (ks := r.1) (L' := r.2) h3
        refine ⟨by rw [List.map_cons, a, e], ?_, by simpa using hb, d⟩
        exact (List.Perm.cons y b).trans (erase_perm h2)
theorem bad_not {last tt : Int} {y : Nd} : badK last tt y = false ↔ belowK y.kd = true ∧ last ≤ y.fr ∧ y.fr ≤ Nd.to y ∧ Nd.to y ≤ tt := by
  unfold badK
  simp only [Bool.or_eq_false_iff, Bool.not_eq_false', decide_eq_false_iff_not]
  constructor
  · rintro ⟨⟨⟨a, b⟩, c⟩, d⟩
    exact ⟨a, by omega, by omega, by omega⟩
  · rintro ⟨a, b, c, d⟩
    exact ⟨⟨⟨a, by omega⟩, by omega⟩, by omega⟩
theorem chain_each {tt : Int} : ∀ {ks : List Nd} {last : Int}, chainK tt last ks → ∀ y ∈ ks, belowK y.kd = true ∧ last ≤ y.fr ∧ y.fr ≤ Nd.to y ∧ Nd.to y ≤ tt
  | [], _, _, y, hy => absurd hy (by simp)
  | x :: r, last, h, y, hy => by
    obtain ⟨h1, h2⟩ := h
    have hx := bad_not.1 h1
    rcases List.mem_cons.1 hy with rfl | hy
    · exact hx
    · obtain ⟨a, b, c, d⟩ := chain_each h2 y hy
      exact ⟨a, by omega, c, d⟩
theorem below_ne {k : Int} (h : belowK k = true) : 0 < k ∧ k ≤ 7 := by
  unfold belowK at h
  simpa using h
theorem chain_ok {tt : Int} {ns : List Nd} (hn : (ns.map Nd.id).Nodup) : ∀ {ks : List Nd} {last : Int}, chainK tt last ks → (∀ y ∈ ks, y ∈ ns) → kidsOk ns tt last (ks.map Nd.id) = true
  | [], _, _, _ => rfl
  | x :: r, last, h, hin => by
    obtain ⟨h1, h2⟩ := h
    obtain ⟨a, b, c, d⟩ := bad_not.1 h1
    have ih := chain_ok hn h2 (fun y hy => hin y (by simp [hy]))
    rw [List.map_cons]
    unfold kidsOk
    rw [get_mem hn (hin x (by simp))]
    dsimp only
    have e : (x.kd == 0) = false := by have := (below_ne a).1; simp; omega
    rw [decide_eq_true b, decide_eq_true d, e, ih]; rfl
theorem kids_spec {n : Nd} {L ks L' : List Nd} (h : kidsN n L = some (ks, L')) : ks.map Nd.id = n.kids ∧ (ks ++ L').Perm L ∧ chainK (Nd.to n) n.fr ks ∧ (leafK n.kd = true → n.kids = []) := by
  unfold kidsN at h
  split at h
  · cases h
  · rename_i hb
    obtain ⟨a, b, c⟩ := takeN_spec h
    refine ⟨a, b, c, fun hl => ?_⟩
    rw [hl, Bool.and_true] at hb
    cases hk : n.kids with
    | nil => rfl
    | cons x r => rw [hk] at hb; simp at hb

/-! What is reached -/
theorem reach_mono (ns : List Nd) : ∀ (f : Nat) (id : Int), reachN ns f id ≤ reachN ns (f + 1) id
  | 0, _ => Nat.zero_le _
  | f + 1, id => by
    show (match getN ns id with | none => 0 | some x => 1 + (x.kids.map (reachN ns f)).sum) ≤ (match getN ns id with | none => 0 | some x => 1 + (x.kids.map (reachN ns (f + 1))).sum)
    cases getN ns id with
    | none => exact Nat.le_refl _
    | some x =>
      dsimp only
      have : ∀ l : List Int, (l.map (reachN ns f)).sum ≤ (l.map (reachN ns (f + 1))).sum := by
        intro l
        induction l with
        | nil => exact Nat.le_refl _
        | cons a l ih => simp only [List.map_cons, List.sum_cons]; have := reach_mono ns f a; omega
      exact Nat.add_le_add_left (this x.kids) 1
theorem reach_monoL (ns : List Nd) (f : Nat) : ∀ l : List Int, (l.map (reachN ns f)).sum ≤ (l.map (reachN ns (f + 1))).sum
  | [] => Nat.le_refl _
  | a :: l => by
    have := reach_mono ns f a
    have := reach_monoL ns f l
    simp only [List.map_cons, List.sum_cons]; omega
/-- What is left at the end. -/
def mayR : Nat → List Nd → List Nd → Option (List Nd)
  | 0, _, L => some L
  | f + 1, F, L => match F.getLast? with
    | none => some L
    | some x => match kidsN x L with
      | none => none
      | some (ks, L') => mayR f (F.dropLast ++ ks) L'
theorem mayR_nil (f : Nat) (L : List Nd) : mayR f [] L = some L := by cases f <;> rfl
theorem mayR_none {f : Nat} {F L : List Nd} {x : Nd} (h : kidsN x L = none) : mayR (f + 1) (F ++ [x]) L = none := by
  simp [mayR, h]
theorem mayR_some {f : Nat} {F L ks L' : List Nd} {x : Nd} (h : kidsN x L = some (ks, L')) : mayR (f + 1) (F ++ [x]) L = mayR f (F ++ ks) L' := by
  simp [mayR, h]
theorem mayW_R : ∀ (f : Nat) (F L : List Nd), F.length + L.length ≤ f → mayW f F L = (match mayR f F L with | none => false | some r => r.isEmpty)
  | 0, F, L, h => by
    have h1 := List.eq_nil_of_length_eq_zero (show F.length = 0 by omega)
    subst h1
    rfl
  | f + 1, F, L, h => by
    rcases nil_or_snoc F with rfl | ⟨F', x, rfl⟩
    · rfl
    · cases hk : kidsN x L with
      | none => rw [mayW_none hk, mayR_none hk]
      | some r =>
        obtain ⟨ks, L'⟩ := r
        rw [mayW_some hk, mayR_some hk]
        refine mayW_R f _ _ ?_
        have := (kids_spec hk).2.1.length_eq
        simp at this h ⊢
        omega
theorem run_reach {ns : List Nd} (hn : (ns.map Nd.id).Nodup) : ∀ (f : Nat) (F L R : List Nd), F.length + L.length ≤ f → (∀ x ∈ F, x ∈ ns) → (∀ x ∈ L, x ∈ ns) → mayR f F L = some R → R.length ≤ L.length ∧ ∀ fuel, F.length + L.length ≤ fuel → ((F.map Nd.id).map (reachN ns fuel)).sum = F.length + L.length - R.length
  | f, F, L, R, hf, hF, hL, h => by
    rcases nil_or_snoc F with rfl | ⟨F', x, rfl⟩
    · rw [mayR_nil] at h
      injection h with h
      subst h
      exact ⟨Nat.le_refl _, fun fuel _ => by simp⟩
    · cases f with
      | zero => simp at hf
      | succ f =>
        cases hk : kidsN x L with
        | none => rw [mayR_none hk] at h; cases h
        | some r =>
          obtain ⟨ks, L'⟩ := r
          rw [mayR_some hk] at h
          obtain ⟨k1, k2, k3, k4⟩ := kids_spec hk
          have hlen := k2.length_eq
          rw [List.length_append] at hlen
          rw [List.length_append, List.length_singleton] at hf ⊢
          have ih := run_reach hn f (F' ++ ks) L' R (by rw [List.length_append]; omega) (fun z hz => by
            rcases List.mem_append.1 hz with hz | hz
            · exact hF z (by simp [hz])
            · exact hL z (k2.mem_iff.1 (by simp [hz]))) (fun z hz => hL z (k2.mem_iff.1 (by simp [hz]))) h
          rw [List.length_append] at ih
          refine ⟨by omega, fun fuel hfu => ?_⟩
          obtain ⟨fu, rfl⟩ : ∃ fu, fuel = fu + 1 := ⟨fuel - 1, by omega⟩
          have i1 := ih.2 fu (by omega)
          have i2 := ih.2 (fu + 1) (by omega)
          rw [List.map_append, List.map_append, List.sum_append] at i1 i2
          have m1 := reach_monoL ns fu (F'.map Nd.id)
          have m2 := reach_monoL ns fu (ks.map Nd.id)
          have e1 : reachN ns (fu + 1) x.id = 1 + (x.kids.map (reachN ns fu)).sum := by
            show (match getN ns x.id with | none => 0 | some x => 1 + (x.kids.map (reachN ns fu)).sum) = _
            rw [get_mem hn (hF x (by simp))]
          rw [List.map_append, List.map_append, List.sum_append]
          simp only [List.map_cons, List.map_nil, List.sum_cons, List.sum_nil, Nat.add_zero]
          rw [e1, ← k1]
          omega

/-- Where the walk stands: D done, F found, L left. -/
structure Run (ns : List Nd) (root size : Int) (D F L : List Nd) : Prop where
  perm : (D ++ (F ++ L)).Perm ns
  span : ∀ x ∈ D ++ F, 0 ≤ x.kd ∧ x.kd ≤ 7 ∧ 0 ≤ x.fr ∧ x.fr ≤ Nd.to x ∧ Nd.to x ≤ size ∧ (x.kd = 0 → x.id = root ∧ x.fr = 0 ∧ Nd.to x = size)
  done : ∀ x ∈ D, kidsOk ns (Nd.to x) x.fr x.kids = true ∧ (leafK x.kd = true → x.kids = [])
  ids : (root :: allKids D).Perm ((D ++ F).map Nd.id)

theorem Run.step {ns : List Nd} {root size : Int} {D F L ks L' : List Nd} {x : Nd} (hn : (ns.map Nd.id).Nodup) (h : Run ns root size D (F ++ [x]) L) (hk : kidsN x L = some (ks, L')) : Run ns root size (x :: D) (F ++ ks) L' := by
  obtain ⟨k1, k2, k3, k4⟩ := kids_spec hk
  have hx := h.span x (by simp)
  have perm : ((x :: D) ++ ((F ++ ks) ++ L')).Perm ns := by
    have e1 : (x :: D) ++ ((F ++ ks) ++ L') = x :: ((D ++ F) ++ (ks ++ L')) := by simp
    have e2 : D ++ ((F ++ [x]) ++ L) = (D ++ F) ++ x :: L := by simp
    have := h.perm
    rw [e2] at this
    rw [e1]
    exact ((List.Perm.append_left _ k2).cons x).trans (List.perm_middle.symm.trans this)
  refine ⟨perm, ?_, ?_, ?_⟩
  · intro z hz
    by_cases hzk : z ∈ ks
    · obtain ⟨a, b, c, d⟩ := chain_each k3 z hzk
      have := below_ne a
      exact ⟨by omega, by omega, by omega, c, by omega, fun e => by omega⟩
    · refine h.span z ?_
      simp only [List.cons_append, List.mem_cons, List.mem_append, hzk, or_false] at hz ⊢
      rcases hz with rfl | hz | hz
      · simp
      · simp [hz]
      · simp [hz]
  · intro z hz
    rcases List.mem_cons.1 hz with rfl | hz
    · refine ⟨?_, k4⟩
      rw [← k1]
      exact chain_ok hn k3 (fun y hy => perm.mem_iff.1 (by simp [hy]))
    · exact h.done z hz
  · have e1 : root :: allKids (x :: D) = root :: (x.kids ++ allKids D) := rfl
    have e2 : ((x :: D) ++ (F ++ ks)).map Nd.id = x.id :: ((D ++ F).map Nd.id ++ x.kids) := by simp [k1]
    have e3 : ((D ++ (F ++ [x])).map Nd.id).Perm (x.id :: (D ++ F).map Nd.id) := by
      have : (D ++ (F ++ [x])).map Nd.id = (D ++ F).map Nd.id ++ [x.id] := by simp
      rw [this]
      exact List.perm_append_comm
    rw [e1, e2]
    refine (List.perm_middle.symm.trans (List.Perm.append_left x.kids (h.ids.trans e3))).trans (List.perm_middle.trans (List.Perm.cons _ List.perm_append_comm))
theorem Run.final {ns : List Nd} {root size : Int} (hn : (ns.map Nd.id).Nodup) : ∀ (f : Nat) (D F L : List Nd), F.length + L.length ≤ f → Run ns root size D F L → mayR f F L = some [] → ∃ D', Run ns root size D' [] []
  | f, D, F, L, hf, h, hr => by
    rcases nil_or_snoc F with rfl | ⟨F', x, rfl⟩
    · rw [mayR_nil] at hr
      injection hr with hr
      subst hr
      exact ⟨D, h⟩
    · cases f with
      | zero => simp at hf
      | succ f =>
        cases hk : kidsN x L with
        | none => rw [mayR_none hk] at hr; cases hr
        | some r =>
          obtain ⟨ks, L'⟩ := r
          rw [mayR_some hk] at hr
          have hlen := (kids_spec hk).2.1.length_eq
          refine Run.final hn f (x :: D) (F' ++ ks) L' ?_ (h.step hn hk) hr
          simp at hf hlen ⊢
          omega

theorem allKids_perm {D E : List Nd} (h : D.Perm E) : (allKids D).Perm (allKids E) := by
  induction h with
  | nil => exact .refl _
  | cons x _ ih => exact List.Perm.append_left x.kids ih
  | swap x y l =>
    show (y.kids ++ (x.kids ++ allKids l)).Perm (x.kids ++ (y.kids ++ allKids l))
    rw [← List.append_assoc, ← List.append_assoc]
    exact List.Perm.append_right _ List.perm_append_comm
  | trans _ _ a b => exact a.trans b
theorem count_one {l : List Int} (hn : l.Nodup) {a : Int} (ha : a ∈ l) : l.count a = 1 := by
  have h1 := List.nodup_iff_count.1 hn a
  have h2 := List.count_pos_iff.2 ha
  omega
theorem same_id {ns : List Nd} (hn : (ns.map Nd.id).Nodup) {x y : Nd} (hx : x ∈ ns) (hy : y ∈ ns) (e : x.id = y.id) : x = y := by
  have h1 := get_mem hn hx
  have h2 := get_mem hn hy
  rw [e, h2] at h1
  exact (Option.some.inj h1).symm
theorem countP_root {ns : List Nd} (hn : (ns.map Nd.id).Nodup) {y : Nd} (hy : y ∈ ns) (hk : y.kd = 0) (h : ∀ x ∈ ns, x.kd = 0 → x.id = y.id) : ns.countP (fun x => x.kd == 0) = 1 := by
  have e : ns.countP (fun x => x.kd == 0) = ns.countP ((fun i => i == y.id) ∘ Nd.id) := by
    apply List.countP_congr
    intro x hx
    simp only [Function.comp, beq_iff_eq]
    exact ⟨fun a => h x hx a, fun a => by rw [same_id hn hx hy a]; exact hk⟩
  rw [e, ← List.countP_map]
  exact count_one hn (List.mem_map.2 ⟨y, hy, rfl⟩)

/-- What mayB asks, one by one. -/
structure MayC (ns : List Nd) (root next size : Int) : Prop where
  one : 1 ≤ ns.length
  few : ns.length ≤ 2048
  next0 : 0 ≤ next
  next1 : next ≤ 16777216
  size0 : 0 ≤ size
  size1 : size ≤ 4096
  node : ∀ x ∈ ns, nodeOk root next size x = true
  rises : risesB ns = true
  kids : ∀ x ∈ ns, kidsOk ns (Nd.to x) x.fr x.kids = true
  root1 : ns.countP (fun x => x.kd == 0) = 1
  once : ∀ x ∈ ns, x.kd = 0 ∨ (allKids ns).count x.id = 1
  reach : reachN ns (ns.length + 1) root = ns.length
theorem mayC_is {ns : List Nd} {root next size : Int} : mayB ns root next size = true ↔ MayC ns root next size := by
  unfold mayB
  simp only [Bool.and_eq_true, decide_eq_true_eq, List.all_eq_true, beq_iff_eq, Bool.or_eq_true]
  constructor
  · rintro ⟨⟨⟨⟨⟨⟨⟨⟨⟨⟨⟨a, b⟩, c⟩, d⟩, e⟩, f⟩, g⟩, h⟩, i⟩, j⟩, k⟩, l⟩
    exact ⟨a, b, c, d, e, f, g, h, i, j, k, l⟩
  · rintro ⟨a, b, c, d, e, f, g, h, i, j, k, l⟩
    exact ⟨⟨⟨⟨⟨⟨⟨⟨⟨⟨⟨a, b⟩, c⟩, d⟩, e⟩, f⟩, g⟩, h⟩, i⟩, j⟩, k⟩, l⟩
theorem nodeOk_is {root next size : Int} {x : Nd} : nodeOk root next size x = true ↔ (0 ≤ x.id ∧ x.id < next) ∧ 0 ≤ x.kd ∧ x.kd ≤ 7 ∧ 0 ≤ x.fr ∧ x.fr ≤ Nd.to x ∧ Nd.to x ≤ size ∧ (leafK x.kd = true → x.kids = []) ∧ (x.kd = 0 → x.id = root ∧ x.fr = 0 ∧ Nd.to x = size) := by
  unfold nodeOk
  simp only [Bool.and_eq_true, decide_eq_true_eq, Bool.or_eq_true, Bool.not_eq_true', beq_iff_eq, List.isEmpty_iff, beq_eq_false_iff_ne]
  constructor
  · rintro ⟨⟨⟨⟨⟨⟨⟨⟨a, b⟩, c⟩, d⟩, e⟩, f⟩, g⟩, h⟩, i⟩
    refine ⟨⟨a, b⟩, c, d, e, f, g, fun hl => ?_, fun hk => ?_⟩
    · rcases h with h | h
      · rw [hl] at h; cases h
      · exact h
    · rcases i with i | ⟨⟨i1, i2⟩, i3⟩
      · exact absurd hk i
      · exact ⟨i1, i2, i3⟩
  · rintro ⟨⟨a, b⟩, c, d, e, f, g, h, i⟩
    refine ⟨⟨⟨⟨⟨⟨⟨⟨a, b⟩, c⟩, d⟩, e⟩, f⟩, g⟩, ?_⟩, ?_⟩
    · cases hl : leafK x.kd with
      | false => exact .inl rfl
      | true => exact .inr (h hl)
    · by_cases hk : x.kd = 0
      · exact .inr ⟨⟨(i hk).1, (i hk).2.1⟩, (i hk).2.2⟩
      · exact .inl hk

/-- What mayP asks. -/
theorem mayP_is {ns : List Nd} {root next size : Int} : mayP ns root next size = true ↔ (0 ≤ size ∧ size ≤ 4096) ∧ numB ns next = true ∧ ∃ i y, fdI root ns 0 = some i ∧ ns[i]? = some y ∧ y.kd = 0 ∧ y.fr = 0 ∧ Nd.to y = size ∧ mayW (ns.length + 1) [y] (ns.eraseIdx i) = true := by
  unfold mayP
  simp only [Bool.and_eq_true, decide_eq_true_eq]
  constructor
  · rintro ⟨⟨⟨a, b⟩, c⟩, d⟩
    refine ⟨⟨a, b⟩, c, ?_⟩
    cases h1 : fdI root ns 0 with
    | none => rw [h1] at d; cases d
    | some i =>
      rw [h1] at d
      dsimp only at d
      cases h2 : ns[i]? with
      | none => rw [h2] at d; cases d
      | some y =>
        rw [h2] at d
        simp only [Bool.and_eq_true, beq_iff_eq] at d
        exact ⟨i, y, rfl, h2, d.1.1.1, d.1.1.2, d.1.2, d.2⟩
  · rintro ⟨⟨a, b⟩, c, i, y, h1, h2, h3, h4, h5, h6⟩
    refine ⟨⟨⟨a, b⟩, c⟩, ?_⟩
    rw [h1]
    dsimp only
    rw [h2]
    simp only [Bool.and_eq_true, beq_iff_eq]
    exact ⟨⟨⟨h3, h4⟩, h5⟩, h6⟩
theorem run_start {ns : List Nd} {root size : Int} {i : Nat} {y : Nd} (h1 : fdI root ns 0 = some i) (h2 : ns[i]? = some y) (hs : 0 ≤ size) (h3 : y.kd = 0) (h4 : y.fr = 0) (h5 : Nd.to y = size) : Run ns root size [] [y] (ns.eraseIdx i) ∧ y.id = root := by
  obtain ⟨-, y', h6, h7⟩ := fdI_spec h1
  rw [Nat.sub_zero, h2] at h6
  injection h6 with h6
  subst h6
  refine ⟨⟨erase_perm h2, ?_, fun x hx => absurd hx (by simp), ?_⟩, h7⟩
  · intro x hx
    have : x = y := by simpa using hx
    subst this
    exact ⟨by omega, by omega, by omega, by omega, by omega, fun _ => ⟨h7, h4, h5⟩⟩
  · show [root].Perm [y.id]
    rw [h7]
theorem mayP_B {ns : List Nd} {root next size : Int} (h : mayP ns root next size = true) : mayB ns root next size = true := by
  obtain ⟨⟨s0, s1⟩, hnum, i, y, h1, h2, h3, h4, h5, h6⟩ := mayP_is.1 h
  obtain ⟨n1, n2, n3, n4, n5⟩ := num_is.1 hnum
  have hn := rises_nodup n4
  obtain ⟨R, hid⟩ := run_start h1 h2 s0 h3 h4 h5
  have hy : y ∈ ns := List.mem_of_getElem? h2
  have hil := (List.getElem?_eq_some_iff.1 h2).1
  have hel := List.length_eraseIdx_of_lt hil
  have hfl : [y].length + (ns.eraseIdx i).length ≤ ns.length + 1 := by rw [List.length_singleton]; omega
  rw [mayW_R _ _ _ hfl] at h6
  cases hr : mayR (ns.length + 1) [y] (ns.eraseIdx i) with
  | none => rw [hr] at h6; cases h6
  | some r =>
    rw [hr] at h6
    have h7 : r = [] := List.isEmpty_iff.1 h6
    subst h7
    obtain ⟨D, F⟩ := R.final hn _ _ _ _ hfl hr
    have hD : D.Perm ns := by simpa using F.perm
    have hre := (run_reach hn _ _ _ _ hfl (fun x hx => by rw [List.mem_singleton.1 hx]; exact hy) (fun x hx => List.mem_of_mem_eraseIdx hx) hr).2 (ns.length + 1) hfl
    have hsp : ∀ x ∈ ns, _ := fun x hx => F.span x (by simpa using hD.mem_iff.2 hx)
    have hdn : ∀ x ∈ ns, _ := fun x hx => F.done x (hD.mem_iff.2 hx)
    refine mayC_is.2 ⟨n1, n2, ?_, n3, s0, s1, ?_, n4, fun x hx => (hdn x hx).1, ?_, ?_, ?_⟩
    · have := n5 y hy; omega
    · intro x hx
      obtain ⟨a, b, c, d, e, f⟩ := hsp x hx
      exact nodeOk_is.2 ⟨n5 x hx, a, b, c, d, e, (hdn x hx).2, f⟩
    · exact countP_root hn hy h3 (fun x hx hk => by rw [hid]; exact ((hsp x hx).2.2.2.2.2 hk).1)
    · intro x hx
      by_cases hk : x.kd = 0
      · exact .inl hk
      · refine .inr ?_
        have hne : root ≠ x.id := fun e => hk (by rw [same_id hn hx hy (by rw [hid, e])]; exact h3)
        have c1 := F.ids.count_eq x.id
        rw [List.append_nil, (hD.map Nd.id).count_eq, count_one hn (List.mem_map.2 ⟨x, hx, rfl⟩), List.count_cons_of_ne hne, (allKids_perm hD).count_eq] at c1
        exact c1
    · rw [List.length_singleton] at hre
      simp only [List.map_cons, List.map_nil, List.sum_cons, List.sum_nil, Nat.add_zero, List.length_nil, Nat.sub_zero, hid] at hre
      rw [hre]; omega

theorem kidsOk_each {ns : List Nd} {tt : Int} : ∀ {cs : List Int} {last : Int}, kidsOk ns tt last cs = true → ∀ c ∈ cs, ∃ y, getN ns c = some y ∧ y.kd ≠ 0
  | [], _, _, c, hc => absurd hc (by simp)
  | a :: cs, last, h, c, hc => by
    unfold kidsOk at h
    cases hg : getN ns a with
    | none => rw [hg] at h; cases h
    | some y =>
      rw [hg] at h
      simp only [Bool.and_eq_true, decide_eq_true_eq, Bool.not_eq_true', beq_eq_false_iff_ne] at h
      rcases List.mem_cons.1 hc with rfl | hc
      · exact ⟨y, hg, h.1.2⟩
      · exact kidsOk_each h.2 c hc
theorem take_yes {ns : List Nd} {tt : Int} (hn : (ns.map Nd.id).Nodup) (hsp : ∀ y ∈ ns, 0 ≤ y.kd ∧ y.kd ≤ 7 ∧ y.fr ≤ Nd.to y) : ∀ (cs : List Int) (last : Int) (L : List Nd), kidsOk ns tt last cs = true → cs.Nodup → (∀ y ∈ L, y ∈ ns) → (∀ c ∈ cs, ∃ y ∈ L, y.id = c) → ∃ r, takeN tt last cs L = some r
  | [], _, L, _, _, _, _ => ⟨([], L), rfl⟩
  | c :: cs, last, L, hk, hnd, hL, hc => by
    obtain ⟨y0, hy0, e0⟩ := hc c (by simp)
    cases h1 : fdI c L 0 with
    | none => exact absurd e0 (fdI_none h1 y0 hy0)
    | some i =>
      obtain ⟨-, y, h2, e⟩ := fdI_spec h1
      rw [Nat.sub_zero] at h2
      have hy : y ∈ ns := hL y (List.mem_of_getElem? h2)
      have hg := get_mem hn hy
      rw [e] at hg
      unfold kidsOk at hk
      rw [hg] at hk
      simp only [Bool.and_eq_true, decide_eq_true_eq, Bool.not_eq_true', beq_eq_false_iff_ne] at hk
      obtain ⟨⟨⟨k1, k2⟩, k3⟩, k4⟩ := hk
      obtain ⟨s1, s2, s3⟩ := hsp y hy
      have hb : badK last tt y = false := bad_not.2 ⟨by unfold belowK; simp; omega, k1, s3, k2⟩
      obtain ⟨n1, n2⟩ := List.nodup_cons.1 hnd
      obtain ⟨r, hr⟩ := take_yes hn hsp cs (Nd.to y) (L.eraseIdx i) k4 n2 (fun z hz => hL z (List.mem_of_mem_eraseIdx hz)) (fun c' hc' => by
        obtain ⟨z, hz, ez⟩ := hc c' (by simp [hc'])
        refine ⟨z, ?_, ez⟩
        rcases List.mem_cons.1 ((erase_perm h2).mem_iff.2 hz) with rfl | hz'
        · exact absurd hc' (by rw [← ez, e]; exact n1)
        · exact hz')
      refine ⟨(y :: r.1, r.2), ?_⟩
      rw [takeN_some h1 h2, hb, hr]; rfl
theorem root_node {ns : List Nd} {root next size : Int} (C : MayC ns root next size) : ∃ y ∈ ns, y.kd = 0 ∧ y.id = root ∧ y.fr = 0 ∧ Nd.to y = size := by
  have h : 0 < ns.countP (fun x => x.kd == 0) := by rw [C.root1]; exact Nat.one_pos
  obtain ⟨y, hy, hk⟩ := List.countP_pos_iff.1 h
  have hk : y.kd = 0 := by simpa using hk
  obtain ⟨-, -, -, -, -, -, -, h9⟩ := nodeOk_is.1 (C.node y hy)
  exact ⟨y, hy, hk, h9 hk⟩
theorem kids_once {ns : List Nd} {root next size : Int} (C : MayC ns root next size) {x : Nd} (hx : x ∈ ns) {c : Int} (hc : c ∈ x.kids) : (allKids ns).count c = 1 ∧ c ≠ root ∧ ∃ y ∈ ns, y.id = c := by
  have hn := rises_nodup C.rises
  obtain ⟨y, hg, hk⟩ := kidsOk_each (C.kids x hx) c hc
  obtain ⟨h1, h2⟩ := get_some hg
  obtain ⟨z, hz, z1, z2, -⟩ := root_node C
  refine ⟨?_, fun e => ?_, y, h1, h2⟩
  · rcases C.once y h1 with h | h
    · exact absurd h hk
    · rw [h2] at h; exact h
  · rw [same_id hn h1 hz (by rw [h2, e, z2])] at hk
    exact hk z1
theorem Run.kids {ns : List Nd} {root next size : Int} (C : MayC ns root next size) {D F L : List Nd} {x : Nd} (h : Run ns root size D (F ++ [x]) L) : ∃ r, kidsN x L = some r := by
  have hn := rises_nodup C.rises
  have hx : x ∈ ns := h.perm.mem_iff.1 (by simp)
  have ok := nodeOk_is.1 (C.node x hx)
  have hleaf : (!x.kids.isEmpty && leafK x.kd) = false := by
    cases hl : leafK x.kd with
    | false => simp
    | true => rw [ok.2.2.2.2.2.2.1 hl]; rfl
  unfold kidsN
  rw [hleaf]
  refine take_yes hn (fun y hy => ?_) x.kids x.fr L (C.kids x hx) ?_ (fun y hy => h.perm.mem_iff.1 (by simp [hy])) ?_
  · obtain ⟨-, a, b, -, d, -⟩ := nodeOk_is.1 (C.node y hy)
    exact ⟨a, b, d⟩
  · refine List.nodup_iff_count.2 (fun c => ?_)
    by_cases hc : c ∈ x.kids
    · have := (kids_once C hx hc).1
      have := count_kids hx c
      omega
    · rw [List.count_eq_zero.2 hc]; omega
  · intro c hc
    obtain ⟨o1, o2, y, hy, e⟩ := kids_once C hx hc
    refine ⟨y, ?_, e⟩
    have hm := h.perm.mem_iff.2 hy
    rw [← List.append_assoc] at hm
    rcases List.mem_append.1 hm with hm | hm
    · exfalso
      have hm2 := h.ids.mem_iff.2 (List.mem_map.2 ⟨y, hm, e⟩)
      rcases List.mem_cons.1 hm2 with hm2 | hm2
      · exact o2 hm2
      · have hp := (allKids_perm h.perm).count_eq c
        have e1 : allKids (D ++ (F ++ [x] ++ L)) = allKids D ++ (allKids F ++ (x.kids ++ allKids L)) := by simp [allKids]
        rw [e1, o1, List.count_append, List.count_append, List.count_append] at hp
        have p1 := List.count_pos_iff.2 hm2
        have p2 := List.count_pos_iff.2 hc
        omega
    · exact hm
theorem mayR_yes {ns : List Nd} {root next size : Int} (C : MayC ns root next size) : ∀ (f : Nat) (D F L : List Nd), Run ns root size D F L → ∃ R, mayR f F L = some R
  | 0, _, _, L, _ => ⟨L, rfl⟩
  | f + 1, D, F, L, h => by
    rcases nil_or_snoc F with rfl | ⟨F', x, rfl⟩
    · exact ⟨L, rfl⟩
    · obtain ⟨⟨ks, L'⟩, hk⟩ := h.kids C
      rw [mayR_some hk]
      exact mayR_yes C f _ _ _ (h.step (rises_nodup C.rises) hk)
theorem mayB_P {ns : List Nd} {root next size : Int} (h : mayB ns root next size = true) : mayP ns root next size = true := by
  have C := mayC_is.1 h
  have hn := rises_nodup C.rises
  obtain ⟨y, hy, h3, hid, h4, h5⟩ := root_node C
  refine mayP_is.2 ⟨⟨C.size0, C.size1⟩, num_is.2 ⟨C.one, C.few, C.next1, C.rises, fun x hx => (nodeOk_is.1 (C.node x hx)).1⟩, ?_⟩
  cases h1 : fdI root ns 0 with
  | none => exact absurd hid (fdI_none h1 y hy)
  | some i =>
    obtain ⟨-, y', h2, e⟩ := fdI_spec h1
    rw [Nat.sub_zero] at h2
    have hy' : y' = y := same_id hn (List.mem_of_getElem? h2) hy (by rw [e, hid])
    subst hy'
    refine ⟨i, y', rfl, h2, h3, h4, h5, ?_⟩
    have hel := List.length_eraseIdx_of_lt (List.getElem?_eq_some_iff.1 h2).1
    have hfl : [y'].length + (ns.eraseIdx i).length ≤ ns.length + 1 := by rw [List.length_singleton]; omega
    obtain ⟨R, hR⟩ := mayR_yes C (ns.length + 1) _ _ _ (run_start h1 h2 C.size0 h3 h4 h5).1
    have hre := run_reach hn _ _ _ _ hfl (fun x hx => by rw [List.mem_singleton.1 hx]; exact hy) (fun x hx => List.mem_of_mem_eraseIdx hx) hR
    have hre2 := hre.2 (ns.length + 1) hfl
    rw [List.length_singleton] at hre2
    simp only [List.map_cons, List.map_nil, List.sum_cons, List.sum_nil, Nat.add_zero, hid, C.reach] at hre2
    have hR0 : R = [] := List.eq_nil_of_length_eq_zero (by have := hre.1; have := C.one; omega)
    rw [mayW_R _ _ _ hfl, hR, hR0]; rfl
theorem mayP_is_B (ns : List Nd) (root next size : Int) : mayP ns root next size = mayB ns root next size := by
  cases h : mayB ns root next size with
  | true => exact mayB_P h
  | false =>
    cases h2 : mayP ns root next size with
    | false => rfl
    | true => rw [mayP_B h2] at h; cases h

end Go.Proofs.YtjmfjlffcopnnaaGreatDoor
