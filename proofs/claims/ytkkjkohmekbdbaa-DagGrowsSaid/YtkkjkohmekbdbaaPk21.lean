/-
  Slots: A region that draws its order, by what each operation's slot holds: one goal an operation, whatever the orders. A region that draws its order and ends with operations in one forced order (stores): the head by what its slots hold, the tail as it stands.
  SlotSkip: A region that draws its order: an operation whose guard says that it does not run (beside SlotStep.guarded and guardedNot).
  SlotsM: A region that draws its order and whose calls turn old memory: by what each operation's slot holds (plain values), where the kept fact may speak of the slots and of which operations are done.
-/
import Derived.Deep.RegionHeld3
import Derived.Test.YtkkjkohmekbdbaaPk20
import Derived.StillTail

namespace Go.Proofs.Ytkkjkohmekbdbaa
open Go.RowKit


section
variable {P : Program} {ops : Array Oper} {Q : Exit → Act → World → Prop}

/-- The slots that the region does not write are as they were. -/
def Same (ds : List Nat) (t0 tm : Array Value) : Prop := tm.size = t0.size ∧ ∀ t, ds.contains t = false → tm[t]? = t0[t]?
/-- The slot of operation i holds what is said of it. -/
def Got (ops : Array Oper) (F : Nat → Value → World → Prop) (tm : Array Value) (w : World) (i : Nat) : Prop :=
  ∀ o d, ops[i]? = some o → o.dst = some d → ∃ v, tm[d]? = some v ∧ F i v w
def SlotStep (P : Program) (ops : Array Oper) (Q : Exit → Act → World → Prop) (ds : List Nat) (t0 : Array Value) (df : List Deferred) (S : World → Prop) (F : Nat → Value → World → Prop) (i : Nat) : Prop :=
  ∀ tm w, Same ds t0 tm → S w → (∀ o, ops[i]? = some o → ∀ e ∈ o.after, Region.binds .any e = true → Got ops F tm w e.on) →
    wpOp P ops Q i (fun a' w' => ∃ v, a' = Act.put ⟨tm, df⟩ ((ops[i]?).bind (·.dst)) v ∧ S w' ∧ F i v w' ∧ Below w.heap.size w w') ⟨tm, df⟩ w

def dstsIn (ops : Array Oper) (ds : List Nat) : Bool := ops.toList.all fun o => match o.dst with | some d => ds.contains d | none => true
def dstsApart (ops : Array Oper) : Bool := (List.range ops.size).all fun i => (List.range ops.size).all fun j => i == j || (match (ops[i]?).bind (·.dst), (ops[j]?).bind (·.dst) with | some d, some d' => d != d' | _, _ => true)
def edgesBack (ops : Array Oper) : Bool := (List.range ops.size).all fun i => match ops[i]? with | some o => o.after.toList.all fun e => !Region.binds .any e || e.on < i | none => true

theorem Got.keep {F : Nat → Value → World → Prop} (hk : ∀ i v w w', Below w.heap.size w w' → F i v w → F i v w') {tm : Array Value} {w w' : World} {i : Nat} (hb : Below w.heap.size w w') (h : Got ops F tm w i) : Got ops F tm w' i := fun o d ho hd => by
  obtain ⟨v, h1, h2⟩ := h o d ho hd
  exact ⟨v, h1, hk _ _ _ _ hb h2⟩

theorem slots_any {ds : List Nat} {t0 : Array Value} {df : List Deferred} {S : World → Prop} {F : Nat → Value → World → Prop}
    (hds : dstsIn ops ds = true) (hlt : ∀ d ∈ ds, d < t0.size) (hap : dstsApart ops = true) (hed : edgesBack ops = true)
    (hk : ∀ i v w w', Below w.heap.size w w' → F i v w → F i v w')
    (hstep : ∀ i ∈ List.range ops.size, SlotStep P ops Q ds t0 df S F i)
    (hend : ∀ tm w, Same ds t0 tm → S w → (∀ i, Got ops F tm w i) → Q .normal ⟨tm, df⟩ w) :
    ∀ (fuel : Nat) (rem : List Nat) (listed : Array Bool) (tm : Array Value) (w : World), listed.size = ops.size → rem.length ≤ fuel →
      (∀ i, i < ops.size → listed.getD i true = false → i ∈ rem) → Same ds t0 tm → S w → (∀ i, listed.getD i false = true → Got ops F tm w i) →
      wpAny P .any ops Q fuel listed ⟨tm, df⟩ w := by
  have hfin : ∀ (listed : Array Bool) (tm : Array Value) (w : World), listed.size = ops.size → (∀ i, i < ops.size → listed.getD i true = true) → Same ds t0 tm → S w → (∀ i, listed.getD i false = true → Got ops F tm w i) → Q .normal ⟨tm, df⟩ w := by
    intro listed tm w hsz hall hsame hS hgot
    refine hend tm w hsame hS fun i o d ho hd => ?_
    have hi : i < ops.size := (Array.getElem?_eq_some_iff.1 ho).1
    have h1 := hall i hi
    refine hgot i ?_ o d ho hd
    simp only [Array.getD_eq_getD_getElem?, hsz, hi, getElem?_pos, Option.getD_some] at h1 ⊢
    exact h1
  intro fuel
  induction fuel with
  | zero =>
    intro rem listed tm w hsz hlen hrem hsame hS hgot
    have hnil : rem = [] := List.eq_nil_of_length_eq_zero (Nat.le_zero.1 hlen)
    subst hnil
    have hall : ∀ i, i < ops.size → listed.getD i true = true := fun i hi => by
      cases h : listed.getD i true with
      | true => rfl
      | false => cases hrem i hi h
    refine ⟨?_, hfin listed tm w hsz hall hsame hS hgot⟩
    cases hr : Region.ready .any ops listed with
    | nil => rfl
    | cons j js =>
      exfalso
      have hj := mem_ready.1 (show j ∈ Region.ready .any ops listed by rw [hr]; exact List.mem_cons_self)
      obtain ⟨h0, o, ho, -⟩ := hj
      rw [hall j (Array.getElem?_eq_some_iff.1 ho).1] at h0
      cases h0
  | succ fuel ih =>
    intro rem listed tm w hsz hlen hrem hsame hS hgot
    have hgf : ∀ i, i < ops.size → listed.getD i false = listed.getD i true := fun i hi => by
      simp only [Array.getD_eq_getD_getElem?, hsz, hi, getElem?_pos, Option.getD_some]
    refine ⟨fun hr => hfin listed tm w hsz ?_ hsame hS hgot, fun i hi => ?_⟩
    · intro i
      induction i using Nat.strongRecOn with
      | ind i ihi =>
        intro hi
        cases h : listed.getD i true with
        | true => rfl
        | false =>
          exfalso
          have hed' := List.all_eq_true.1 hed i (List.mem_range.2 hi)
          have ho : ops[i]? = some ops[i] := getElem?_pos ops i hi
          rw [ho] at hed'
          have hmem : i ∈ Region.ready .any ops listed := by
            refine mem_ready.2 ⟨h, _, ho, fun e he hb => ?_⟩
            have h1 := List.all_eq_true.1 hed' e (by simpa using he)
            simp only [hb, Bool.not_true, Bool.false_or, decide_eq_true_eq] at h1
            rw [hgf _ (by omega)]
            exact ihi e.on h1 (by omega)
          rw [hr] at hmem
          cases hmem
    · obtain ⟨hun, o, ho, hafter⟩ := mem_ready.1 hi
      have hlti : i < ops.size := (Array.getElem?_eq_some_iff.1 ho).1
      have hmem := hrem i hlti hun
      refine wpOp_mono ?_ (hstep i (List.mem_range.2 hlti) tm w hsame hS (fun o' ho' e he hb => hgot e.on (by rw [ho] at ho'; cases ho'; exact hafter e he hb)))
      rintro a' w' ⟨v, rfl, hS', hF, hbel⟩
      have hset : ∀ j, (listed.setIfInBounds i true).getD j false = true → j = i ∨ listed.getD j false = true := fun j hj => by
        by_cases hji : i = j
        · exact .inl hji.symm
        · rw [getD_set_ne false hji] at hj; exact .inr hj
      have hrem' : ∀ j, j < ops.size → (listed.setIfInBounds i true).getD j true = false → j ∈ rem.erase i := fun j hj hju => by
        by_cases hji : i = j
        · subst hji
          simp [Array.getD_eq_getD_getElem?, hsz, hj] at hju
        · rw [getD_set_ne true hji] at hju
          exact (List.mem_erase_of_ne (Ne.symm hji)).2 (hrem j hj hju)
      have hlen' : (rem.erase i).length ≤ fuel := by
        rw [List.length_erase_of_mem hmem]; omega
      simp only [ho, Option.bind_some]
      cases hd : o.dst with
      | none =>
        refine ih (rem.erase i) _ tm w' (by simpa using hsz) hlen' hrem' hsame hS' fun j hj => ?_
        rcases hset j hj with rfl | hj
        · intro o' d ho' hd'
          rw [ho] at ho'; cases ho'
          rw [hd] at hd'; cases hd'
        · exact (hgot j hj).keep hk hbel
      | some d =>
        have hdd : ds.contains d = true := by
          have h1 := List.all_eq_true.1 hds o (by
            rw [← Array.mem_def]; exact Array.mem_of_getElem? ho)
          rw [hd] at h1; exact h1
        have hdl : d < tm.size := by rw [hsame.1]; exact hlt d (List.contains_iff_mem.1 hdd)
        refine ih (rem.erase i) _ (tm.setIfInBounds d v) w' (by simpa using hsz) hlen' hrem' ⟨by simpa using hsame.1, fun t ht => ?_⟩ hS' fun j hj => ?_
        · have htd : d ≠ t := fun e => by subst e; rw [hdd] at ht; cases ht
          rw [Array.getElem?_setIfInBounds_ne htd]
          exact hsame.2 t ht
        · intro o' d' ho' hd'
          by_cases hji : j = i
          · subst hji
            rw [ho] at ho'; cases ho'
            rw [hd] at hd'; cases hd'
            exact ⟨v, by simp [hdl], hF⟩
          · obtain ⟨v', h1, h2⟩ := hgot j ((hset j hj).resolve_left hji) o' d' ho' hd'
            have hltj : j < ops.size := (Array.getElem?_eq_some_iff.1 ho').1
            have h3 := List.all_eq_true.1 (List.all_eq_true.1 hap i (List.mem_range.2 hlti)) j (List.mem_range.2 hltj)
            simp only [ho, ho', Option.bind_some, hd, hd', Bool.or_eq_true, beq_iff_eq, bne_iff_ne] at h3
            have hne : d ≠ d' := h3.resolve_left (fun e => hji e.symm)
            exact ⟨v', by rw [Array.getElem?_setIfInBounds_ne hne]; exact h1, hk _ _ _ _ hbel h2⟩

theorem wp_region_slots {id : Nat} {t0 : Array Value} {df : List Deferred} {w : World} (hm : P.follows .mixedOrders = true) (ds : List Nat) (S : World → Prop) (F : Nat → Value → World → Prop)
    (hds : dstsIn ops ds = true) (hlt : (ds.all fun d => decide (d < t0.size)) = true) (hap : dstsApart ops = true) (hed : edgesBack ops = true)
    (hk : ∀ i v w w', Below w.heap.size w w' → F i v w → F i v w') (hS : S w.drew)
    {l : List Nat} (hl : List.range ops.size = l) (hstep : ∀ i ∈ l, SlotStep P ops Q ds t0 df S F i)
    (hend : ∀ tm w, Same ds t0 tm → S w → (∀ i, Got ops F tm w i) → Q .normal ⟨tm, df⟩ w) :
    (Code.region id ops true).wp P Q ⟨t0, df⟩ w := by
  subst hl
  refine wp_region_any hm (slots_any hds (fun d hd => by simpa using List.all_eq_true.1 hlt d hd) hap hed hk hstep hend ops.size (List.range ops.size) _ t0 _ (by simp) (by simp) (fun i hi _ => List.mem_range.2 hi) ⟨rfl, fun _ _ => rfl⟩ hS fun i hi => ?_)
  exfalso
  rw [Array.getD_eq_getD_getElem?] at hi
  by_cases h : i < ops.size
  · simp [h] at hi
  · simp [h] at hi

/-- One operation, whose slot is d. -/
theorem SlotStep.one {ds : List Nat} {t0 : Array Value} {df : List Deferred} {S : World → Prop} {F : Nat → Value → World → Prop} {i : Nat} {o : Oper} {d : Nat} (ho : ops[i]? = some o) (hd : o.dst = some d)
    (h : ∀ tm w, Same ds t0 tm → S w → (∀ j, ((o.after.toList.filter (Region.binds .any)).map (·.on)).contains j = true → Got ops F tm w j) →
      ∀ K : Act → World → Prop, (∀ v w', Below w.heap.size w w' → S w' → F i v w' → K ⟨tm.setIfInBounds d v, df⟩ w') →
      if Region.wanted o (yielded ops tm) = true then Oper.wp P o ⟨tm, df⟩ w K Q else K (Act.put ⟨tm, df⟩ o.dst undef) w) :
    SlotStep P ops Q ds t0 df S F i := by
  intro tm w hsame hS hgot
  refine wpOp_step ho fun K hK => ?_
  refine h tm w hsame hS (fun j hj => ?_) K fun v w' hb hS' hF => ?_
  · obtain ⟨e, he, rfl⟩ := List.mem_map.1 (List.contains_iff_mem.1 hj)
    obtain ⟨h1, h2⟩ := List.mem_filter.1 he
    exact hgot o ho e (by simpa using h1) h2
  · refine hK _ _ ⟨v, ?_, hS', hF, hb⟩
    rw [ho]
    show _ = Act.put ⟨tm, df⟩ o.dst v
    rw [hd]
    rfl

theorem SlotStep.plain {ds : List Nat} {t0 : Array Value} {df : List Deferred} {S : World → Prop} {F : Nat → Value → World → Prop} {i : Nat} {o : Oper} {d : Nat} (ho : ops[i]? = some o) (hd : o.dst = some d) (hn : o.guard = none)
    (h : ∀ tm w, Same ds t0 tm → S w → (∀ j, ((o.after.toList.filter (Region.binds .any)).map (·.on)).contains j = true → Got ops F tm w j) →
      ∀ K : Act → World → Prop, (∀ v w', Below w.heap.size w w' → S w' → F i v w' → K ⟨tm.setIfInBounds d v, df⟩ w') → Oper.wp P o ⟨tm, df⟩ w K Q) :
    SlotStep P ops Q ds t0 df S F i :=
  SlotStep.one ho hd fun tm w h1 h2 h3 K hK => by
    rw [if_pos (by unfold Region.wanted; rw [hn])]
    exact h tm w h1 h2 h3 K hK
theorem SlotStep.guarded {ds : List Nat} {t0 : Array Value} {df : List Deferred} {S : World → Prop} {F : Nat → Value → World → Prop} {i : Nat} {o : Oper} {d : Nat} (ho : ops[i]? = some o) (hd : o.dst = some d) (j : Nat) (hn : o.guard = some (j, true))
    {dj : Nat} (hj : (ops[j]?).bind (·.dst) = some dj) (hjd : ((o.after.toList.filter (Region.binds .any)).map (·.on)).contains j = true) (hF : ∀ v w, F j v w → v = .bool true)
    (h : ∀ tm w, Same ds t0 tm → S w → (∀ j, ((o.after.toList.filter (Region.binds .any)).map (·.on)).contains j = true → Got ops F tm w j) →
      ∀ K : Act → World → Prop, (∀ v w', Below w.heap.size w w' → S w' → F i v w' → K ⟨tm.setIfInBounds d v, df⟩ w') → Oper.wp P o ⟨tm, df⟩ w K Q) :
    SlotStep P ops Q ds t0 df S F i :=
  SlotStep.one ho hd fun tm w h1 h2 h3 K hK => by
    obtain ⟨oj, hoj, hdj⟩ := Option.bind_eq_some_iff.1 hj
    obtain ⟨v, e, hv⟩ := h3 j hjd oj dj hoj hdj
    rw [hF _ _ hv] at e
    have hy : yielded ops tm j = some true := by
      unfold yielded
      rw [hj, Option.bind_some, e]
    rw [if_pos (by unfold Region.wanted; rw [hn]; simp only [hy]; rfl)]
    exact h tm w h1 h2 h3 K hK
end

/-- The slots as they stand behind the region, written out. -/
theorem foldl_set_get (u : Nat → Value) : ∀ (ds : List Nat) (t0 : Array Value) (t : Nat), (ds.foldl (fun t d => t.setIfInBounds d (u d)) t0)[t]? = if ds.contains t = true ∧ t < t0.size then some (u t) else t0[t]?
  | [], t0, t => by simp
  | d :: ds, t0, t => by
    rw [List.foldl_cons, foldl_set_get u ds (t0.setIfInBounds d (u d)) t, Array.size_setIfInBounds]
    by_cases h1 : ds.contains t = true ∧ t < t0.size
    · rw [if_pos h1, if_pos ⟨by simp only [List.contains_cons, h1.1, Bool.or_true], h1.2⟩]
    · rw [if_neg h1]
      by_cases h2 : d = t
      · subst h2
        by_cases h3 : d < t0.size
        · rw [if_pos ⟨by simp, h3⟩]; simp [h3]
        · rw [if_neg (fun h => h3 h.2)]; simp [h3]
      · rw [Array.getElem?_setIfInBounds_ne h2, if_neg]
        rintro ⟨h3, h4⟩
        rw [List.contains_cons] at h3
        rcases Bool.or_eq_true_iff.1 h3 with h5 | h5
        · exact h2 (beq_iff_eq.1 h5).symm
        · exact h1 ⟨h5, h4⟩
theorem Same.form {ds : List Nat} {t0 tm : Array Value} (h : Same ds t0 tm) (hlt : (ds.all fun d => decide (d < t0.size)) = true) :
    ∃ u : Nat → Value, (∀ d v, tm[d]? = some v → u d = v) ∧ tm = ds.foldl (fun t d => t.setIfInBounds d (u d)) t0 := by
  refine ⟨fun d => tm.getD d undef, fun d v hv => by simp [Array.getD_eq_getD_getElem?, hv], ?_⟩
  apply Array.ext_getElem?
  intro t
  rw [foldl_set_get]
  by_cases h1 : ds.contains t = true
  · have h2 : t < t0.size := by simpa using List.all_eq_true.1 hlt t (List.contains_iff_mem.1 h1)
    have h3 : t < tm.size := by rw [h.1]; exact h2
    rw [if_pos ⟨h1, h2⟩, Array.getD_eq_getD_getElem?, getElem?_pos tm t h3]
    rfl
  · rw [if_neg (fun hh => h1 hh.1)]
    exact h.2 t (by simpa using h1)
/-- What a slot may be said to hold. -/
def Is (x : Value) (v : Value) (_ : World) : Prop := v = x
def IsRow (p : Bool) (a : Option Addr) (n c : Nat) (v : Value) (w : World) : Prop := ∃ b, v = .slice (some ⟨b, 0, none⟩) 1 1 ∧ w.cell? ⟨b, 0, none⟩ = some (.bool p) ∧ w.cell? ⟨b, 1, none⟩ = some (.slice a n c)
def IsW (Z : Int) (m : Nat) (v : Value) (w : World) : Prop := ∃ p a n c N, v = .agg #[.bool p, .slice a n c] ∧ Num w (.slice a n c) N m ∧ Z = sg p N
def Keeps (F : Value → World → Prop) : Prop := ∀ v w w', Below w.heap.size w w' → F v w → F v w'
theorem Is.keeps (x : Value) : Keeps (Is x) := fun _ _ _ _ h => h
theorem IsRow.keeps (p : Bool) (a : Option Addr) (n c : Nat) : Keeps (IsRow p a n c) := fun v w w' hb ⟨b, h1, h2, h3⟩ =>
  ⟨b, h1, by rw [hb.cell (p := ⟨b, 0, none⟩) (World.block_lt_of_cell? (a := ⟨b, 0, none⟩) _ h2)]; exact h2, by rw [hb.cell (p := ⟨b, 1, none⟩) (World.block_lt_of_cell? (a := ⟨b, 1, none⟩) _ h3)]; exact h3⟩
theorem IsW.keeps (Z : Int) (m : Nat) : Keeps (IsW Z m) := fun _ _ _ hb ⟨p, a, n, c, N, h1, h2, h3⟩ => ⟨p, a, n, c, N, h1, h2.below hb, h3⟩
def Said (Fs : List (Value → World → Prop)) (i : Nat) (v : Value) (w : World) : Prop := Fs.getD i (fun _ _ => True) v w
theorem Said.keep {Fs : List (Value → World → Prop)} (h : ∀ F ∈ Fs, Keeps F) : ∀ i v w w', Below w.heap.size w w' → Said Fs i v w → Said Fs i v w' := fun i v w w' hb hs => by
  unfold Said at hs ⊢
  rw [List.getD_eq_getElem?_getD] at hs ⊢
  by_cases hi : i < Fs.length
  · rw [List.getElem?_eq_getElem hi] at hs ⊢
    exact h _ (List.getElem_mem hi) v w w' hb hs
  · rw [List.getElem?_eq_none (by omega)]; trivial


section
variable {P : Program} {ops : Array Oper} {Q : Exit → Act → World → Prop}

def headDone (size n : Nat) : Array Bool := ((List.range size).map fun i => decide (i < n)).toArray
def headIn (ops : Array Oper) (n : Nat) (ds : List Nat) : Bool := (List.range n).all fun i => match (ops[i]?).bind (·.dst) with | some d => ds.contains d | none => false
def headApart (ops : Array Oper) (n : Nat) : Bool := (List.range n).all fun i => (List.range n).all fun j => i == j || (match (ops[i]?).bind (·.dst), (ops[j]?).bind (·.dst) with | some d, some d' => d != d' | _, _ => true)
def headBack (ops : Array Oper) (n : Nat) : Bool := (List.range n).all fun i => match ops[i]? with | some o => o.after.toList.all fun e => !Region.binds .any e || e.on < i | none => true

theorem headDone_eq {n : Nat} {listed : Array Bool} (inv : HeadInv .any ops n listed) (h : ∀ i, i < n → listed.getD i true = true) : listed = headDone ops.size n := by
  apply Array.ext_getElem?
  intro i
  by_cases hi : i < ops.size
  · have hs : i < listed.size := by rw [inv.size]; exact hi
    have e1 : (headDone ops.size n)[i]? = some (decide (i < n)) := by simp [headDone, hi]
    rw [e1, getElem?_pos listed i hs]
    congr 1
    by_cases hin : i < n
    · have := h i hin
      simp [Array.getD_eq_getD_getElem?, hs] at this
      simp [this, hin]
    · have := inv.tail i (by omega) hi
      simp [Array.getD_eq_getD_getElem?, hs] at this
      simp [this, hin]
  · rw [getElem?_neg listed i (by rw [inv.size]; exact hi), getElem?_neg _ i (by simp [headDone]; omega)]

theorem slots_tail_any {ds : List Nat} {t0 : Array Value} {df : List Deferred} {S : World → Prop} {F : Nat → Value → World → Prop} {n : Nat}
    (hds : headIn ops n ds = true) (hlt : ∀ d ∈ ds, d < t0.size) (hap : headApart ops n = true) (hed : headBack ops n = true)
    (hsk : Region.sinkB .any ops n = true) (hch : Region.chainB .any ops n = true) (hn : n < ops.size)
    (hsq : Region.seqB .any ops (ops.size - n) n (headDone ops.size n) = true)
    (hk : ∀ i v w w', Below w.heap.size w w' → F i v w → F i v w')
    (hstep : ∀ i ∈ List.range n, SlotStep P ops Q ds t0 df S F i)
    (hend : ∀ tm w, Same ds t0 tm → S w → (∀ i, i < n → Got ops F tm w i) → wpList P ops Q (ops.toList.drop n) ⟨tm, df⟩ w) :
    ∀ (k : Nat) (rem : List Nat) (listed : Array Bool) (tm : Array Value) (w : World), rem.length = k → HeadInv .any ops n listed → rem.Nodup → (∀ i, i ∈ rem ↔ i < n ∧ listed.getD i true = false) → Same ds t0 tm → S w → (∀ i, i < n → listed.getD i true = true → Got ops F tm w i) →
      wpAny P .any ops Q (k + (ops.size - n)) listed ⟨tm, df⟩ w := by
  intro k
  induction k with
  | zero =>
    intro rem listed tm w hlen inv hnd hrem hsame hS hgot
    obtain rfl : rem = [] := List.eq_nil_of_length_eq_zero hlen
    have hall : ∀ i, i < n → listed.getD i true = true := fun i hi => by
      cases h : listed.getD i true with
      | true => rfl
      | false => cases (hrem i).2 ⟨hi, h⟩
    have hl := headDone_eq inv hall
    have hlen2 : (ops.toList.drop n).length = ops.size - n := by simp
    rw [Nat.zero_add, ← hlen2]
    refine wpAny_of_seq (ops.toList.drop n) n listed _ w (fun j => by rw [List.getElem?_drop, Array.getElem?_toList]) (by rw [hlen2, hl]; exact hsq) (hend tm w hsame hS fun i hi => hgot i hi (hall i hi))
  | succ k ih =>
    intro rem listed tm w hlen inv hnd hrem hsame hS hgot
    rw [show k + 1 + (ops.size - n) = (k + (ops.size - n)) + 1 by omega]
    obtain ⟨i0, hi0⟩ : ∃ i0, i0 ∈ rem := by
      cases rem with
      | nil => simp at hlen
      | cons x l => exact ⟨x, List.mem_cons_self ..⟩
    have hu0 := (hrem i0).1 hi0
    refine ⟨fun hr => ?_, fun i hi => ?_⟩
    · exfalso
      have hall : ∀ i, i < n → listed.getD i true = true := by
        intro i
        induction i using Nat.strongRecOn with
        | ind i ihi =>
          intro hi
          cases h : listed.getD i true with
          | true => rfl
          | false =>
            exfalso
            have hed' := List.all_eq_true.1 hed i (List.mem_range.2 hi)
            have hi2 : i < ops.size := by omega
            have ho : ops[i]? = some ops[i] := getElem?_pos ops i hi2
            rw [ho] at hed'
            have hmem : i ∈ Region.ready .any ops listed := by
              refine mem_ready.2 ⟨h, _, ho, fun e he hb => ?_⟩
              have h1 := List.all_eq_true.1 hed' e (by simpa using he)
              simp only [hb, Bool.not_true, Bool.false_or, decide_eq_true_eq] at h1
              have h2 := ihi e.on h1 (by omega)
              have h3 : e.on < listed.size := by rw [inv.size]; omega
              simp [Array.getD_eq_getD_getElem?, h3] at h2 ⊢
              exact h2
            rw [hr] at hmem
            cases hmem
      rw [hall i0 hu0.1] at hu0
      cases hu0.2
    · have hin : i < n := by
        rcases Nat.lt_or_ge i n with h | h
        · exact h
        · exact absurd hi (tail_waits hsk hch hn inv _ i0 rfl hu0.1 hu0.2 i h)
      have hi' := hi
      obtain ⟨hun, o, ho, hafter⟩ := mem_ready.1 hi'
      have hlti : i < ops.size := by omega
      have hmem := (hrem i).2 ⟨hin, hun⟩
      have hback := List.all_eq_true.1 hed i (List.mem_range.2 hin)
      rw [ho] at hback
      refine wpOp_mono ?_ (hstep i (List.mem_range.2 hin) tm w hsame hS (fun o' ho' e he hb => ?_))
      · rintro a' w' ⟨v, rfl, hS', hF, hbel⟩
        have hsz : i < listed.size := by rw [inv.size]; exact hlti
        have hin2 := List.all_eq_true.1 hds i (List.mem_range.2 hin)
        simp only [ho, Option.bind_some] at hin2
        cases hd : o.dst with
        | none => rw [hd] at hin2; cases hin2
        | some d =>
          rw [hd] at hin2
          have hdd : ds.contains d = true := hin2
          have hdl : d < tm.size := by rw [hsame.1]; exact hlt d (List.contains_iff_mem.1 hdd)
          simp only [ho, Option.bind_some, hd]
          refine ih (rem.erase i) _ (tm.setIfInBounds d v) w' (by rw [List.length_erase_of_mem hmem]; omega) (inv.set hi hin) (hnd.erase i) (fun j => ?_) ⟨by simpa using hsame.1, fun t ht => ?_⟩ hS' fun j hjn hj => ?_
          · rw [hnd.mem_erase_iff, hrem j]
            by_cases hji : i = j
            · subst hji
              simp [Array.getD_eq_getD_getElem?, hsz]
            · rw [getD_set_ne true hji]
              constructor
              · rintro ⟨-, h⟩; exact h
              · intro h; exact ⟨Ne.symm hji, h⟩
          · have htd : d ≠ t := fun e => by subst e; rw [hdd] at ht; cases ht
            rw [Array.getElem?_setIfInBounds_ne htd]
            exact hsame.2 t ht
          · intro o' d' ho' hd'
            by_cases hji : j = i
            · subst hji
              rw [ho] at ho'; cases ho'
              rw [hd] at hd'; cases hd'
              exact ⟨v, by simp [hdl], hF⟩
            · rw [getD_set_ne true (Ne.symm hji)] at hj
              obtain ⟨v', h1, h2⟩ := hgot j hjn hj o' d' ho' hd'
              have h3 := List.all_eq_true.1 (List.all_eq_true.1 hap i (List.mem_range.2 hin)) j (List.mem_range.2 hjn)
              simp only [ho, ho', Option.bind_some, hd, hd', Bool.or_eq_true, beq_iff_eq, bne_iff_ne] at h3
              have hne : d ≠ d' := h3.resolve_left (fun e => hji e.symm)
              exact ⟨v', by rw [Array.getElem?_setIfInBounds_ne hne]; exact h1, hk _ _ _ _ hbel h2⟩
      · rw [ho] at ho'; cases ho'
        have h1 := List.all_eq_true.1 hback e (by simpa using he)
        simp only [hb, Bool.not_true, Bool.false_or, decide_eq_true_eq] at h1
        have h2 := hafter e he hb
        refine hgot e.on (by omega) ?_
        have h3 : e.on < listed.size := by rw [inv.size]; omega
        simp [Array.getD_eq_getD_getElem?, h3] at h2 ⊢
        exact h2

theorem wp_region_slots_tail {id : Nat} {t0 : Array Value} {df : List Deferred} {w : World} (hm : P.follows .mixedOrders = true) (n : Nat) (ds : List Nat) (S : World → Prop) (F : Nat → Value → World → Prop)
    (hds : headIn ops n ds = true) (hlt : (ds.all fun d => decide (d < t0.size)) = true) (hap : headApart ops n = true) (hed : headBack ops n = true)
    (htl : (Region.sinkB .any ops n && Region.chainB .any ops n && decide (n < ops.size) && Region.seqB .any ops (ops.size - n) n (headDone ops.size n)) = true)
    (hk : ∀ i v w w', Below w.heap.size w w' → F i v w → F i v w') (hS : S w.drew)
    {l : List Nat} (hl : List.range n = l) (hstep : ∀ i ∈ l, SlotStep P ops Q ds t0 df S F i)
    (hend : ∀ tm w, Same ds t0 tm → S w → (∀ i, i < n → Got ops F tm w i) → wpList P ops Q (ops.toList.drop n) ⟨tm, df⟩ w) :
    (Code.region id ops true).wp P Q ⟨t0, df⟩ w := by
  subst hl
  simp only [Bool.and_eq_true, decide_eq_true_eq] at htl
  obtain ⟨⟨⟨hsk, hch⟩, hn⟩, hsq⟩ := htl
  refine wp_region_any hm ?_
  have h := slots_tail_any (P := P) (Q := Q) (df := df) hds (fun d hd => by simpa using List.all_eq_true.1 hlt d hd) hap hed hsk hch hn hsq hk hstep hend n (List.range n) (Array.replicate ops.size false) t0 w.drew (by simp) ⟨by simp, (fun j oj hj hl => (by rw [getD_replicate_false] at hl; cases hl)), (fun t ht ht' => (by simp [Array.getD_eq_getD_getElem?, ht']))⟩ List.nodup_range (fun i => by
    rw [List.mem_range]
    constructor
    · intro hi
      exact ⟨hi, by simp [Array.getD_eq_getD_getElem?, show i < ops.size by omega]⟩
    · exact fun h => h.1) ⟨rfl, fun _ _ => rfl⟩ hS (fun i hi hl => by
      simp [Array.getD_eq_getD_getElem?, show i < ops.size by omega] at hl)
  rwa [show n + (ops.size - n) = ops.size by omega] at h

/-- One operation that is done where the one that guards it is false. -/
theorem SlotStep.guardedNot {ds : List Nat} {t0 : Array Value} {df : List Deferred} {S : World → Prop} {F : Nat → Value → World → Prop} {i : Nat} {o : Oper} {d : Nat} (ho : ops[i]? = some o) (hd : o.dst = some d) (j : Nat) (hn : o.guard = some (j, false))
    {dj : Nat} (hj : (ops[j]?).bind (·.dst) = some dj) (hjd : ((o.after.toList.filter (Region.binds .any)).map (·.on)).contains j = true) (hF : ∀ v w, F j v w → v = .bool false)
    (h : ∀ tm w, Same ds t0 tm → S w → (∀ j, ((o.after.toList.filter (Region.binds .any)).map (·.on)).contains j = true → Got ops F tm w j) →
      ∀ K : Act → World → Prop, (∀ v w', Below w.heap.size w w' → S w' → F i v w' → K ⟨tm.setIfInBounds d v, df⟩ w') → Oper.wp P o ⟨tm, df⟩ w K Q) :
    SlotStep P ops Q ds t0 df S F i :=
  SlotStep.one ho hd fun tm w h1 h2 h3 K hK => by
    obtain ⟨oj, hoj, hdj⟩ := Option.bind_eq_some_iff.1 hj
    obtain ⟨v, e, hv⟩ := h3 j hjd oj dj hoj hdj
    rw [hF _ _ hv] at e
    have hy : yielded ops tm j = some false := by
      unfold yielded
      rw [hj, Option.bind_some, e]
    rw [if_pos (by unfold Region.wanted; rw [hn]; simp only [hy]; rfl)]
    exact h tm w h1 h2 h3 K hK
end

end Go.Proofs.Ytkkjkohmekbdbaa

namespace Go.Proofs.Ytkkjkohmekbdbaa
open Go.RowKit
section
variable {P : Program} {ops : Array Oper} {Q : Exit → Act → World → Prop}
/-- A slot of which nothing is said. -/
def IsAny (_ : Value) (_ : World) : Prop := True
theorem IsAny.keeps : Keeps IsAny := fun _ _ _ _ _ => trivial
theorem SlotStep.skip {ds : List Nat} {t0 : Array Value} {df : List Deferred} {S : World → Prop} {F : Nat → Value → World → Prop} {i : Nat} {o : Oper} {d : Nat} (ho : ops[i]? = some o) (hd : o.dst = some d) (j : Nat) (b : Bool) (hn : o.guard = some (j, b))
    {dj : Nat} (hj : (ops[j]?).bind (·.dst) = some dj) (hjd : ((o.after.toList.filter (Region.binds .any)).map (·.on)).contains j = true) (hF : ∀ v w, F j v w → v = .bool (!b)) (hU : ∀ w, F i undef w) :
    SlotStep P ops Q ds t0 df S F i :=
  SlotStep.one ho hd fun tm w h1 h2 h3 K hK => by
    obtain ⟨oj, hoj, hdj⟩ := Option.bind_eq_some_iff.1 hj
    obtain ⟨v, e, hv⟩ := h3 j hjd oj dj hoj hdj
    rw [hF _ _ hv] at e
    have hy : yielded ops tm j = some (!b) := by
      unfold yielded
      rw [hj, Option.bind_some, e]
    rw [if_neg (by unfold Region.wanted; rw [hn]; simp only [hy]; cases b <;> decide), hd]
    exact hK _ _ (Below.refl _ _) h2 (hU w)
end

end Go.Proofs.Ytkkjkohmekbdbaa

namespace Go.Proofs.Ytkkjkohmekbdbaa
open Go.RowKit

section
variable {P : Program} {ops : Array Oper} {Q : Exit → Act → World → Prop}
/-- The slot of operation i holds a value of which F speaks. -/
def GotV (ops : Array Oper) (F : Nat → Value → Prop) (tm : Array Value) (i : Nat) : Prop := ∀ o d, ops[i]? = some o → o.dst = some d → ∃ v, tm[d]? = some v ∧ F i v
/-- What is done has all done that it waits for. -/
def ClosedL (ops : Array Oper) (listed : Array Bool) : Prop := ∀ i o, listed.getD i false = true → ops[i]? = some o → ∀ e ∈ o.after, Region.binds .any e = true → listed.getD e.on false = true
def SlotStepM (P : Program) (ops : Array Oper) (Q : Exit → Act → World → Prop) (ds : List Nat) (t0 : Array Value) (df : List Deferred) (S : Array Bool → Array Value → World → Prop) (F : Nat → Value → Prop) (i : Nat) : Prop :=
  ∀ listed tm w, listed.size = ops.size → ClosedL ops listed → Same ds t0 tm → S listed tm w → listed.getD i true = false → (∀ o, ops[i]? = some o → ∀ e ∈ o.after, Region.binds .any e = true → listed.getD e.on false = true ∧ GotV ops F tm e.on) →
    wpOp P ops Q i (fun a' w' => ∃ v, a' = Act.put ⟨tm, df⟩ ((ops[i]?).bind (·.dst)) v ∧ S (listed.setIfInBounds i true) (Act.put ⟨tm, df⟩ ((ops[i]?).bind (·.dst)) v).tmps w' ∧ F i v) ⟨tm, df⟩ w

theorem slotsm_any {ds : List Nat} {t0 : Array Value} {df : List Deferred} {S : Array Bool → Array Value → World → Prop} {F : Nat → Value → Prop}
    (hds : dstsIn ops ds = true) (hlt : ∀ d ∈ ds, d < t0.size) (hap : dstsApart ops = true) (hed : edgesBack ops = true)
    (hstep : ∀ i ∈ List.range ops.size, SlotStepM P ops Q ds t0 df S F i)
    (hend : ∀ listed tm w, (∀ i, i < ops.size → listed.getD i true = true) → Same ds t0 tm → S listed tm w → (∀ i, GotV ops F tm i) → Q .normal ⟨tm, df⟩ w) :
    ∀ (fuel : Nat) (rem : List Nat) (listed : Array Bool) (tm : Array Value) (w : World), listed.size = ops.size → ClosedL ops listed → rem.length ≤ fuel →
      (∀ i, i < ops.size → listed.getD i true = false → i ∈ rem) → Same ds t0 tm → S listed tm w → (∀ i, listed.getD i false = true → GotV ops F tm i) →
      wpAny P .any ops Q fuel listed ⟨tm, df⟩ w := by
  have hfin : ∀ (listed : Array Bool) (tm : Array Value) (w : World), listed.size = ops.size → (∀ i, i < ops.size → listed.getD i true = true) → Same ds t0 tm → S listed tm w → (∀ i, listed.getD i false = true → GotV ops F tm i) → Q .normal ⟨tm, df⟩ w := by
    intro listed tm w hsz hall hsame hS hgot
    refine hend listed tm w hall hsame hS fun i o d ho hd => ?_
    have hi : i < ops.size := (Array.getElem?_eq_some_iff.1 ho).1
    have h1 := hall i hi
    refine hgot i ?_ o d ho hd
    simp only [Array.getD_eq_getD_getElem?, hsz, hi, getElem?_pos, Option.getD_some] at h1 ⊢
    exact h1
  intro fuel
  induction fuel with
  | zero =>
    intro rem listed tm w hsz hcl hlen hrem hsame hS hgot
    have hnil : rem = [] := List.eq_nil_of_length_eq_zero (Nat.le_zero.1 hlen)
    subst hnil
    have hall : ∀ i, i < ops.size → listed.getD i true = true := fun i hi => by
      cases h : listed.getD i true with
      | true => rfl
      | false => cases hrem i hi h
    refine ⟨?_, hfin listed tm w hsz hall hsame hS hgot⟩
    cases hr : Region.ready .any ops listed with
    | nil => rfl
    | cons j js =>
      exfalso
      have hj := mem_ready.1 (show j ∈ Region.ready .any ops listed by rw [hr]; exact List.mem_cons_self)
      obtain ⟨h0, o, ho, -⟩ := hj
      rw [hall j (Array.getElem?_eq_some_iff.1 ho).1] at h0
      cases h0
  | succ fuel ih =>
    intro rem listed tm w hsz hcl hlen hrem hsame hS hgot
    have hgf : ∀ i, i < ops.size → listed.getD i false = listed.getD i true := fun i hi => by
      simp only [Array.getD_eq_getD_getElem?, hsz, hi, getElem?_pos, Option.getD_some]
    refine ⟨fun hr => hfin listed tm w hsz ?_ hsame hS hgot, fun i hi => ?_⟩
    · intro i
      induction i using Nat.strongRecOn with
      | ind i ihi =>
        intro hi
        cases h : listed.getD i true with
        | true => rfl
        | false =>
          exfalso
          have hed' := List.all_eq_true.1 hed i (List.mem_range.2 hi)
          have ho : ops[i]? = some ops[i] := getElem?_pos ops i hi
          rw [ho] at hed'
          have hmem : i ∈ Region.ready .any ops listed := by
            refine mem_ready.2 ⟨h, _, ho, fun e he hb => ?_⟩
            have h1 := List.all_eq_true.1 hed' e (by simpa using he)
            simp only [hb, Bool.not_true, Bool.false_or, decide_eq_true_eq] at h1
            rw [hgf _ (by omega)]
            exact ihi e.on h1 (by omega)
          rw [hr] at hmem
          cases hmem
    · obtain ⟨hun, o, ho, hafter⟩ := mem_ready.1 hi
      have hlti : i < ops.size := (Array.getElem?_eq_some_iff.1 ho).1
      have hmem := hrem i hlti hun
      refine wpOp_mono ?_ (hstep i (List.mem_range.2 hlti) listed tm w hsz hcl hsame hS hun (fun o' ho' e he hb => by
        have h9 : listed.getD e.on false = true := by rw [ho] at ho'; cases ho'; exact hafter e he hb
        exact ⟨h9, hgot e.on h9⟩))
      rintro a' w' ⟨v, rfl, hS', hF⟩
      rw [ho, Option.bind_some] at hS'
      have hset : ∀ j, (listed.setIfInBounds i true).getD j false = true → j = i ∨ listed.getD j false = true := fun j hj => by
        by_cases hji : i = j
        · exact .inl hji.symm
        · rw [getD_set_ne false hji] at hj; exact .inr hj
      have hrem' : ∀ j, j < ops.size → (listed.setIfInBounds i true).getD j true = false → j ∈ rem.erase i := fun j hj hju => by
        by_cases hji : i = j
        · subst hji
          simp [Array.getD_eq_getD_getElem?, hsz, hj] at hju
        · rw [getD_set_ne true hji] at hju
          exact (List.mem_erase_of_ne (Ne.symm hji)).2 (hrem j hj hju)
      have hcl' : ClosedL ops (listed.setIfInBounds i true) := fun j oj hj hoj e he hb => by
        have hd : listed.getD e.on false = true := by
          rcases hset j hj with rfl | hj
          · rw [ho] at hoj; cases hoj; exact hafter e he hb
          · exact hcl j oj hj hoj e he hb
        by_cases hji : i = e.on
        · rw [← hji, Array.getD_eq_getD_getElem?, Array.getElem?_setIfInBounds_self_of_lt (by omega)]; rfl
        · rw [getD_set_ne false hji]; exact hd
      have hlen' : (rem.erase i).length ≤ fuel := by
        rw [List.length_erase_of_mem hmem]; omega
      simp only [ho, Option.bind_some]
      cases hd : o.dst with
      | none =>
        refine ih (rem.erase i) _ tm w' (by simpa using hsz) hcl' hlen' hrem' hsame (by rw [hd] at hS'; exact hS') fun j hj => ?_
        rcases hset j hj with rfl | hj
        · intro o' d ho' hd'
          rw [ho] at ho'; cases ho'
          rw [hd] at hd'; cases hd'
        · exact hgot j hj
      | some d =>
        have hdd : ds.contains d = true := by
          have h1 := List.all_eq_true.1 hds o (by
            rw [← Array.mem_def]; exact Array.mem_of_getElem? ho)
          rw [hd] at h1; exact h1
        have hdl : d < tm.size := by rw [hsame.1]; exact hlt d (List.contains_iff_mem.1 hdd)
        refine ih (rem.erase i) _ (tm.setIfInBounds d v) w' (by simpa using hsz) hcl' hlen' hrem' ⟨by simpa using hsame.1, fun t ht => ?_⟩ (by rw [hd] at hS'; exact hS') fun j hj => ?_
        · have htd : d ≠ t := fun e => by subst e; rw [hdd] at ht; cases ht
          rw [Array.getElem?_setIfInBounds_ne htd]
          exact hsame.2 t ht
        · intro o' d' ho' hd'
          by_cases hji : j = i
          · subst hji
            rw [ho] at ho'; cases ho'
            rw [hd] at hd'; cases hd'
            exact ⟨v, by simp [hdl], hF⟩
          · obtain ⟨v', h1, h2⟩ := hgot j ((hset j hj).resolve_left hji) o' d' ho' hd'
            have hltj : j < ops.size := (Array.getElem?_eq_some_iff.1 ho').1
            have h3 := List.all_eq_true.1 (List.all_eq_true.1 hap i (List.mem_range.2 hlti)) j (List.mem_range.2 hltj)
            simp only [ho, ho', Option.bind_some, hd, hd', Bool.or_eq_true, beq_iff_eq, bne_iff_ne] at h3
            have hne : d ≠ d' := h3.resolve_left (fun e => hji e.symm)
            exact ⟨v', by rw [Array.getElem?_setIfInBounds_ne hne]; exact h1, h2⟩

theorem wp_region_slotsm {id : Nat} {t0 : Array Value} {df : List Deferred} {w : World} (hm : P.follows .mixedOrders = true) (ds : List Nat) (S : Array Bool → Array Value → World → Prop) (F : Nat → Value → Prop)
    (hds : dstsIn ops ds = true) (hlt : (ds.all fun d => decide (d < t0.size)) = true) (hap : dstsApart ops = true) (hed : edgesBack ops = true)
    (hS : S (Array.replicate ops.size false) t0 w.drew)
    {l : List Nat} (hl : List.range ops.size = l) (hstep : ∀ i ∈ l, SlotStepM P ops Q ds t0 df S F i)
    (hend : ∀ listed tm w, (∀ i, i < ops.size → listed.getD i true = true) → Same ds t0 tm → S listed tm w → (∀ i, GotV ops F tm i) → Q .normal ⟨tm, df⟩ w) :
    (Code.region id ops true).wp P Q ⟨t0, df⟩ w := by
  subst hl
  refine wp_region_any hm (slotsm_any hds (fun d hd => by simpa using List.all_eq_true.1 hlt d hd) hap hed hstep hend ops.size (List.range ops.size) _ t0 _ (by simp) (fun i o hi _ => by exfalso; rw [Array.getD_eq_getD_getElem?] at hi; by_cases h : i < ops.size <;> simp [h] at hi) (by simp) (fun i hi _ => List.mem_range.2 hi) ⟨rfl, fun _ _ => rfl⟩ hS fun i hi => ?_)
  exfalso
  rw [Array.getD_eq_getD_getElem?] at hi
  by_cases h : i < ops.size
  · simp [h] at hi
  · simp [h] at hi

def aftersOf (o : Oper) : List Nat := (o.after.toList.filter (Region.binds .any)).map (·.on)
theorem SlotStepM.one {ds : List Nat} {t0 : Array Value} {df : List Deferred} {S : Array Bool → Array Value → World → Prop} {F : Nat → Value → Prop} {i : Nat} {o : Oper} {d : Nat} (ho : ops[i]? = some o) (hd : o.dst = some d)
    (h : ∀ listed tm w, listed.size = ops.size → ClosedL ops listed → Same ds t0 tm → S listed tm w → listed.getD i true = false → (∀ j, (aftersOf o).contains j = true → listed.getD j false = true ∧ GotV ops F tm j) →
      ∀ K : Act → World → Prop, (∀ v w', S (listed.setIfInBounds i true) (tm.setIfInBounds d v) w' → F i v → K ⟨tm.setIfInBounds d v, df⟩ w') →
      if Region.wanted o (yielded ops tm) = true then Oper.wp P o ⟨tm, df⟩ w K Q else K (Act.put ⟨tm, df⟩ o.dst undef) w) :
    SlotStepM P ops Q ds t0 df S F i := by
  intro listed tm w hsz hcl hsame hS hun hgot
  refine wpOp_step ho fun K hK => ?_
  refine h listed tm w hsz hcl hsame hS hun (fun j hj => ?_) K fun v w' hS' hF => ?_
  · obtain ⟨e, he, rfl⟩ := List.mem_map.1 (List.contains_iff_mem.1 hj)
    obtain ⟨h1, h2⟩ := List.mem_filter.1 he
    exact hgot o ho e (by simpa using h1) h2
  · refine hK _ _ ⟨v, ?_, ?_, hF⟩
    · rw [ho]
      show _ = Act.put ⟨tm, df⟩ o.dst v
      rw [hd]
      rfl
    · rw [ho, Option.bind_some, hd]
      exact hS'
theorem SlotStepM.plain {ds : List Nat} {t0 : Array Value} {df : List Deferred} {S : Array Bool → Array Value → World → Prop} {F : Nat → Value → Prop} {i : Nat} {o : Oper} {d : Nat} (ho : ops[i]? = some o) (hd : o.dst = some d) (hn : o.guard = none)
    (h : ∀ listed tm w, listed.size = ops.size → ClosedL ops listed → Same ds t0 tm → S listed tm w → listed.getD i true = false → (∀ j, (aftersOf o).contains j = true → listed.getD j false = true ∧ GotV ops F tm j) →
      ∀ K : Act → World → Prop, (∀ v w', S (listed.setIfInBounds i true) (tm.setIfInBounds d v) w' → F i v → K ⟨tm.setIfInBounds d v, df⟩ w') → Oper.wp P o ⟨tm, df⟩ w K Q) :
    SlotStepM P ops Q ds t0 df S F i :=
  SlotStepM.one ho hd fun listed tm w h0 hc h1 h2 hu h3 K hK => by
    rw [if_pos (by unfold Region.wanted; rw [hn])]
    exact h listed tm w h0 hc h1 h2 hu h3 K hK
theorem SlotStepM.guarded {ds : List Nat} {t0 : Array Value} {df : List Deferred} {S : Array Bool → Array Value → World → Prop} {F : Nat → Value → Prop} {i : Nat} {o : Oper} {d : Nat} (ho : ops[i]? = some o) (hd : o.dst = some d) (j : Nat) (b : Bool) (hn : o.guard = some (j, b))
    {dj : Nat} (hj : (ops[j]?).bind (·.dst) = some dj) (hjd : (aftersOf o).contains j = true) (hF : ∀ v, F j v → v = .bool b)
    (h : ∀ listed tm w, listed.size = ops.size → ClosedL ops listed → Same ds t0 tm → S listed tm w → listed.getD i true = false → (∀ j, (aftersOf o).contains j = true → listed.getD j false = true ∧ GotV ops F tm j) →
      ∀ K : Act → World → Prop, (∀ v w', S (listed.setIfInBounds i true) (tm.setIfInBounds d v) w' → F i v → K ⟨tm.setIfInBounds d v, df⟩ w') → Oper.wp P o ⟨tm, df⟩ w K Q) :
    SlotStepM P ops Q ds t0 df S F i :=
  SlotStepM.one ho hd fun listed tm w h0 hc h1 h2 hu h3 K hK => by
    obtain ⟨oj, hoj, hdj⟩ := Option.bind_eq_some_iff.1 hj
    obtain ⟨v, e, hv⟩ := (h3 j hjd).2 oj dj hoj hdj
    rw [hF _ hv] at e
    have hy : yielded ops tm j = some b := by
      unfold yielded
      rw [hj, Option.bind_some, e]
    rw [if_pos (by unfold Region.wanted; rw [hn]; simp only [hy]; cases b <;> rfl)]
    exact h listed tm w h0 hc h1 h2 hu h3 K hK
/-- One operation waits for another, by so many edges. -/
def upB (ops : Array Oper) : Nat → Nat → Nat → Bool
  | 0, i, j => i == j
  | n + 1, i, j => i == j || (match ops[i]? with | some o => (aftersOf o).any fun k => upB ops n k j | none => false)
theorem ClosedL.up {listed : Array Bool} (h : ClosedL ops listed) : ∀ (n i j : Nat), upB ops n i j = true → listed.getD i false = true → listed.getD j false = true := by
  intro n
  induction n with
  | zero => intro i j hu hi; simp only [upB, beq_iff_eq] at hu; exact hu ▸ hi
  | succ n ih =>
    intro i j hu hi
    unfold upB at hu
    rcases Bool.or_eq_true _ _ ▸ hu with hu | hu
    · simp only [beq_iff_eq] at hu; exact hu ▸ hi
    · cases ho : ops[i]? with
      | none => rw [ho] at hu; cases hu
      | some o =>
        rw [ho] at hu
        obtain ⟨k, hk, hu⟩ := List.any_eq_true.1 hu
        obtain ⟨e, he, rfl⟩ := List.mem_map.1 hk
        obtain ⟨h1, h2⟩ := List.mem_filter.1 he
        exact ih _ _ hu (h i o hi ho e (by simpa using h1) h2)
/-- Plain values that slots hold. -/
def SaidV (l : List (Value → Prop)) (i : Nat) (v : Value) : Prop := (l.getD i (fun _ => True)) v
end
end Go.Proofs.Ytkkjkohmekbdbaa
