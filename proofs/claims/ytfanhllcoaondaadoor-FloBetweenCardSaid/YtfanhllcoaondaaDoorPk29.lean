/-
  SlotsF: A region that draws its order: a head, one operation that may come up at any time, a forced tail: by what the slots hold.
-/
import Derived.Test.YtfanhllcoaondaaDoorPk21

namespace Go.Proofs.YtfanhllcoaondaaDoor
open Go.RowKit

section
variable {P : Program} {ops : Array Oper} {Q : Exit → Act → World → Prop}

/-- The operations that some operations wait for, and what those wait for, and so on. -/
def upOps (ops : Array Oper) : Nat → List Nat → List Nat
  | 0, l => l
  | f + 1, l => upOps ops f (l ++ l.flatMap fun i => match ops[i]? with | some o => ((o.after.toList.filter (Region.binds .any)).map (·.on)) | none => [])
def tailUp (ops : Array Oper) (n : Nat) : Bool := (List.range ops.size).all fun t => decide (t ≤ n) || (match ops[t]? with | some o => (List.range n).all fun i => (upOps ops 4 ((o.after.toList.filter (Region.binds .any)).map (·.on))).contains i | none => false)
theorem upOps_listed {listed : Array Bool} (hc : ∀ j oj, ops[j]? = some oj → listed.getD j false = true → ∀ e ∈ oj.after, Region.binds .any e = true → listed.getD e.on false = true) :
    ∀ (f : Nat) (l : List Nat), (∀ i ∈ l, listed.getD i false = true) → ∀ i ∈ upOps ops f l, listed.getD i false = true
  | 0, _, h => h
  | f + 1, l, h => upOps_listed hc f _ fun i hi => by
    rcases List.mem_append.1 hi with hi | hi
    · exact h i hi
    · obtain ⟨j, hj, hi⟩ := List.mem_flatMap.1 hi
      have hl := h j hj
      cases ho : ops[j]? with
      | none => rw [ho] at hi; cases hi
      | some o =>
        rw [ho] at hi
        obtain ⟨e, he, rfl⟩ := List.mem_map.1 hi
        obtain ⟨h1, h2⟩ := List.mem_filter.1 he
        exact hc j o ho hl e (by simpa using h1) h2
/-- No operation of the tail comes up before the whole head. -/
theorem tail_up {n : Nat} {listed : Array Bool} (hu : tailUp ops n = true) (hc : ∀ j oj, ops[j]? = some oj → listed.getD j false = true → ∀ e ∈ oj.after, Region.binds .any e = true → listed.getD e.on false = true)
    {t : Nat} (ht : n < t) (hr : t ∈ Region.ready .any ops listed) : ∀ i, i < n → listed.getD i false = true := by
  intro i hi
  obtain ⟨_, o, ho, hall⟩ := mem_ready.1 hr
  have hlt : t < ops.size := (Array.getElem?_eq_some_iff.1 ho).1
  have h1 := List.all_eq_true.1 hu t (List.mem_range.2 hlt)
  rw [ho] at h1
  simp only [Bool.or_eq_true, decide_eq_true_eq] at h1
  have h2 := h1.resolve_left (by omega)
  have h3 := List.all_eq_true.1 h2 i (List.mem_range.2 hi)
  refine upOps_listed hc 4 _ ?_ i (List.contains_iff_mem.1 h3)
  intro j hj
  obtain ⟨e, he, rfl⟩ := List.mem_map.1 hj
  obtain ⟨h4, h5⟩ := List.mem_filter.1 he
  exact hall e (by simpa using h4) h5

theorem slots_float_any {ds : List Nat} {t0 : Array Value} {df : List Deferred} {S : World → Prop} {F : Nat → Value → World → Prop} {n : Nat}
    (hds : headIn ops (n + 1) ds = true) (hlt : ∀ d ∈ ds, d < t0.size) (hap : headApart ops (n + 1) = true) (hed : headBack ops (n + 1) = true)
    (hup : tailUp ops n = true) (hn : n + 1 < ops.size)
    (hsq : Region.seqB .any ops (ops.size - (n + 1)) (n + 1) (headDone ops.size (n + 1)) = true)
    (hk : ∀ i v w w', Below w.heap.size w w' → F i v w → F i v w')
    (hstep : ∀ i ∈ List.range (n + 1), SlotStep P ops Q ds t0 df S F i)
    (hfloat : ∀ tm w, Same ds t0 tm → S w → (∀ i, i < n → Got ops F tm w i) → wpAny P .any ops Q (1 + (ops.size - (n + 1))) (headDone ops.size n) ⟨tm, df⟩ w)
    (hend : ∀ tm w, Same ds t0 tm → S w → (∀ i, i < n + 1 → Got ops F tm w i) → wpList P ops Q (ops.toList.drop (n + 1)) ⟨tm, df⟩ w) :
    ∀ (k : Nat) (rem : List Nat) (listed : Array Bool) (tm : Array Value) (w : World), rem.length = k → HeadInv .any ops (n + 1) listed → rem.Nodup → (∀ i, i ∈ rem ↔ i < n + 1 ∧ listed.getD i true = false) → Same ds t0 tm → S w → (∀ i, i < n + 1 → listed.getD i true = true → Got ops F tm w i) →
      wpAny P .any ops Q (k + (ops.size - (n + 1))) listed ⟨tm, df⟩ w := by
  intro k
  induction k with
  | zero =>
    intro rem listed tm w hlen inv hnd hrem hsame hS hgot
    obtain rfl : rem = [] := List.eq_nil_of_length_eq_zero hlen
    have hall : ∀ i, i < n + 1 → listed.getD i true = true := fun i hi => by
      cases h : listed.getD i true with
      | true => rfl
      | false => cases (hrem i).2 ⟨hi, h⟩
    have hl := headDone_eq inv hall
    have hlen2 : (ops.toList.drop (n + 1)).length = ops.size - (n + 1) := by simp
    rw [Nat.zero_add, ← hlen2]
    refine wpAny_of_seq (ops.toList.drop (n + 1)) (n + 1) listed _ w (fun j => by rw [List.getElem?_drop, Array.getElem?_toList]) (by rw [hlen2, hl]; exact hsq) (hend tm w hsame hS fun i hi => hgot i hi (hall i hi))
  | succ k ih =>
    intro rem listed tm w hlen inv hnd hrem hsame hS hgot
    rw [show k + 1 + (ops.size - (n + 1)) = (k + (ops.size - (n + 1))) + 1 by omega]
    obtain ⟨i0, hi0⟩ : ∃ i0, i0 ∈ rem := by
      cases rem with
      | nil => simp at hlen
      | cons x l => exact ⟨x, List.mem_cons_self ..⟩
    have hu0 := (hrem i0).1 hi0
    by_cases honly : ∀ i, i < n → listed.getD i true = true
    · have hnn : listed.getD n true = false := by
        have e : i0 = n := by
          rcases Nat.lt_or_ge i0 n with h | h
          · have := honly i0 h
            rw [hu0.2] at this
            cases this
          · omega
        rw [← e]; exact hu0.2
      have hinv : HeadInv .any ops n listed := ⟨inv.size, inv.closed, fun t h1 h2 => by
        rcases Nat.lt_or_eq_of_le h1 with h3 | h3
        · exact inv.tail t h3 h2
        · rw [← h3]; exact hnn⟩
      have hl := headDone_eq hinv honly
      have hk0 : k = 0 := by
        have hr1 : ∀ i ∈ rem, i = n := by
          intro i hi
          have h1 := (hrem i).1 hi
          rcases Nat.lt_or_ge i n with h | h
          · have := honly i h
            rw [h1.2] at this
            cases this
          · omega
        have : rem.length ≤ 1 := by
          match rem, hr1, hnd with
          | [], _, _ => simp
          | [_], _, _ => simp
          | x :: y :: l, hr1, hnd =>
            exfalso
            have e1 := hr1 x (by simp)
            have e2 := hr1 y (by simp)
            rw [List.nodup_cons] at hnd
            exact hnd.1 (by rw [e1, ← e2]; simp)
        omega
      subst hk0
      rw [hl]
      have h1 := hfloat tm w hsame hS (fun i hi => hgot i (by omega) (honly i hi))
      rw [Nat.add_comm 1] at h1
      rw [Nat.zero_add]
      exact h1
    obtain ⟨i1, hi1⟩ := Classical.not_forall.1 honly
    obtain ⟨hi1n, hi1u⟩ := Classical.not_imp.1 hi1
    refine ⟨fun hr => ?_, fun i hi => ?_⟩
    · exfalso
      have hall : ∀ i, i < n + 1 → listed.getD i true = true := by
        intro i
        induction i using Nat.strongRecOn with
        | ind i ihi =>
          intro hi
          cases h : listed.getD i true with
          | true => rfl
          | false =>
            exfalso
            have hed' := List.all_eq_true.1 hed i (List.mem_range.2 hi)
            have hi2 : i < ops.size := by omega
            have ho : ops[i]? = some ops[i] := getElem?_pos ops i hi2
            rw [ho] at hed'
            have hmem : i ∈ Region.ready .any ops listed := by
              refine mem_ready.2 ⟨h, _, ho, fun e he hb => ?_⟩
              have h1 := List.all_eq_true.1 hed' e (by simpa using he)
              simp only [hb, Bool.not_true, Bool.false_or, decide_eq_true_eq] at h1
              have h2 := ihi e.on h1 (by omega)
              have h3 : e.on < listed.size := by rw [inv.size]; omega
              simp [Array.getD_eq_getD_getElem?, h3] at h2 ⊢
              exact h2
            rw [hr] at hmem
            cases hmem
      rw [hall i0 hu0.1] at hu0
      cases hu0.2
    · have hin : i < n + 1 := by
        rcases Nat.lt_or_ge i (n + 1) with h | h
        · exact h
        · exfalso
          have h1 := tail_up hup inv.closed (show n < i by omega) hi i1 hi1n
          have h2 : i1 < listed.size := by rw [inv.size]; omega
          simp [Array.getD_eq_getD_getElem?, h2] at h1 hi1u
          rw [h1] at hi1u
          cases hi1u
      have hi' := hi
      obtain ⟨hun, o, ho, hafter⟩ := mem_ready.1 hi'
      have hlti : i < ops.size := by omega
      have hmem := (hrem i).2 ⟨hin, hun⟩
      have hback := List.all_eq_true.1 hed i (List.mem_range.2 hin)
      rw [ho] at hback
      refine wpOp_mono ?_ (hstep i (List.mem_range.2 hin) tm w hsame hS (fun o' ho' e he hb => ?_))
      · rintro a' w' ⟨v, rfl, hS', hF, hbel⟩
        have hsz : i < listed.size := by rw [inv.size]; exact hlti
        have hin2 := List.all_eq_true.1 hds i (List.mem_range.2 hin)
        simp only [ho, Option.bind_some] at hin2
        cases hd : o.dst with
        | none => rw [hd] at hin2; cases hin2
        | some d =>
          rw [hd] at hin2
          have hdd : ds.contains d = true := hin2
          have hdl : d < tm.size := by rw [hsame.1]; exact hlt d (List.contains_iff_mem.1 hdd)
          simp only [ho, Option.bind_some, hd]
          refine ih (rem.erase i) _ (tm.setIfInBounds d v) w' (by rw [List.length_erase_of_mem hmem]; omega) (inv.set hi hin) (hnd.erase i) (fun j => ?_) ⟨by simpa using hsame.1, fun t ht => ?_⟩ hS' fun j hjn hj => ?_
          · rw [hnd.mem_erase_iff, hrem j]
            by_cases hji : i = j
            · subst hji
              simp [Array.getD_eq_getD_getElem?, hsz]
            · rw [getD_set_ne true hji]
              constructor
              · rintro ⟨-, h⟩; exact h
              · intro h; exact ⟨Ne.symm hji, h⟩
          · have htd : d ≠ t := fun e => by subst e; rw [hdd] at ht; cases ht
            rw [Array.getElem?_setIfInBounds_ne htd]
            exact hsame.2 t ht
          · intro o' d' ho' hd'
            by_cases hji : j = i
            · subst hji
              rw [ho] at ho'; cases ho'
              rw [hd] at hd'; cases hd'
              exact ⟨v, by simp [hdl], hF⟩
            · rw [getD_set_ne true (Ne.symm hji)] at hj
              obtain ⟨v', h1, h2⟩ := hgot j hjn hj o' d' ho' hd'
              have h3 := List.all_eq_true.1 (List.all_eq_true.1 hap i (List.mem_range.2 hin)) j (List.mem_range.2 hjn)
              simp only [ho, ho', Option.bind_some, hd, hd', Bool.or_eq_true, beq_iff_eq, bne_iff_ne] at h3
              have hne : d ≠ d' := h3.resolve_left (fun e => hji e.symm)
              exact ⟨v', by rw [Array.getElem?_setIfInBounds_ne hne]; exact h1, hk _ _ _ _ hbel h2⟩
      · rw [ho] at ho'; cases ho'
        have h1 := List.all_eq_true.1 hback e (by simpa using he)
        simp only [hb, Bool.not_true, Bool.false_or, decide_eq_true_eq] at h1
        have h2 := hafter e he hb
        refine hgot e.on (by omega) ?_
        have h3 : e.on < listed.size := by rw [inv.size]; omega
        simp [Array.getD_eq_getD_getElem?, h3] at h2 ⊢
        exact h2

theorem wp_region_slots_float {id : Nat} {t0 : Array Value} {df : List Deferred} {w : World} (hm : P.follows .mixedOrders = true) (n : Nat) (ds : List Nat) (S : World → Prop) (F : Nat → Value → World → Prop)
    (hds : headIn ops (n + 1) ds = true) (hlt : (ds.all fun d => decide (d < t0.size)) = true) (hap : headApart ops (n + 1) = true) (hed : headBack ops (n + 1) = true)
    (htl : (tailUp ops n && decide (n + 1 < ops.size) && Region.seqB .any ops (ops.size - (n + 1)) (n + 1) (headDone ops.size (n + 1))) = true)
    (hk : ∀ i v w w', Below w.heap.size w w' → F i v w → F i v w') (hS : S w.drew)
    {l : List Nat} (hl : List.range (n + 1) = l) (hstep : ∀ i ∈ l, SlotStep P ops Q ds t0 df S F i)
    (hfloat : ∀ tm w, Same ds t0 tm → S w → (∀ i, i < n → Got ops F tm w i) → wpAny P .any ops Q (1 + (ops.size - (n + 1))) (headDone ops.size n) ⟨tm, df⟩ w)
    (hend : ∀ tm w, Same ds t0 tm → S w → (∀ i, i < n + 1 → Got ops F tm w i) → wpList P ops Q (ops.toList.drop (n + 1)) ⟨tm, df⟩ w) :
    (Code.region id ops true).wp P Q ⟨t0, df⟩ w := by
  subst hl
  simp only [Bool.and_eq_true, decide_eq_true_eq] at htl
  obtain ⟨⟨hup, hn⟩, hsq⟩ := htl
  refine wp_region_any hm ?_
  have h := slots_float_any (P := P) (Q := Q) (df := df) hds (fun d hd => by simpa using List.all_eq_true.1 hlt d hd) hap hed hup hn hsq hk hstep hfloat hend (n + 1) (List.range (n + 1)) (Array.replicate ops.size false) t0 w.drew (by simp) ⟨by simp, (fun j oj hj hl => (by rw [getD_replicate_false] at hl; cases hl)), (fun t ht ht' => (by simp [Array.getD_eq_getD_getElem?, ht']))⟩ List.nodup_range (fun i => by
    rw [List.mem_range]
    constructor
    · intro hi
      exact ⟨hi, by simp [Array.getD_eq_getD_getElem?, show i < ops.size by omega]⟩
    · exact fun h => h.1) ⟨rfl, fun _ _ => rfl⟩ hS (fun i hi hl => by
      simp [Array.getD_eq_getD_getElem?, show i < ops.size by omega] at hl)
  rwa [show n + 1 + (ops.size - (n + 1)) = ops.size by omega] at h
theorem wpOp_plain {i : Nat} {o : Oper} {K : Act → World → Prop} {a : Act} {w : World} (ho : ops[i]? = some o) (hg : o.guard = none) (h : ∀ K' : Act → World → Prop, (∀ a w, K a w → K' a w) → Oper.wp P o a w K' Q) : wpOp P ops Q i K a w :=
  wpOp_step ho fun K' hK => by
    rw [if_pos (by unfold Region.wanted; rw [hg])]
    exact h K' hK
theorem wpAny_single {i k : Nat} {listed : Array Bool} {a : Act} {w : World} (hr : Region.ready .any ops listed = [i])
    (h : wpOp P ops Q i (wpAny P .any ops Q k (listed.setIfInBounds i true)) a w) : wpAny P .any ops Q (k + 1) listed a w :=
  ⟨fun e => (by rw [hr] at e; cases e), fun x hx => by
    rw [hr] at hx
    rw [List.mem_singleton] at hx
    subst hx
    exact h⟩
/-- Two operations may come up next: each is taken. -/
theorem wpAny_two {i j k : Nat} {listed : Array Bool} {a : Act} {w : World} (hr : Region.ready .any ops listed = [i, j])
    (h : wpOp P ops Q i (wpAny P .any ops Q k (listed.setIfInBounds i true)) a w) (g : wpOp P ops Q j (wpAny P .any ops Q k (listed.setIfInBounds j true)) a w) : wpAny P .any ops Q (k + 1) listed a w :=
  ⟨fun e => (by rw [hr] at e; cases e), fun x hx => by
    rw [hr] at hx
    rcases List.mem_cons.1 hx with rfl | hx
    · exact h
    · rw [List.mem_singleton] at hx
      subst hx
      exact g⟩
end
end Go.Proofs.YtfanhllcoaondaaDoor
