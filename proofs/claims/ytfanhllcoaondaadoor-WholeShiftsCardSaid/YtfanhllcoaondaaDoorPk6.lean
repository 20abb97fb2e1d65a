/-
  Whole4: Contract of whole.Int.Add: any number of integers. Contracts of package whole: Add of one, Sub, Text of small amounts.
  Product: Contract of whole.product: the product of any count of numbers, by halves.
  WholeM: Contract of whole.Int.Mul: any number of integers.
  Sqrt: Contract of nat.Sqrt for numbers of at most 140 words: the root and what is left.
  Powers: Contract of nat.chunkPowers: 10^19 and its repeated squares.
  WriteD: Contract of nat.writeDigits: decimal digits by halves.
  TextN: Contract of nat.Text for numbers of at most 150 words; decimal texts.
  RefText: Contracts of the reference's Text and Digits.
-/
import Derived.Test.YtfanhllcoaondaaDoorPk5
import Derived.Laws.AppendOwnNone
import Derived.Test.YtfanhllcoaondaaDoorPk3
import Derived.Deep.RegionWith
import Derived.Test.YtfanhllcoaondaaDoorPk1

namespace Go.Proofs.YtfanhllcoaondaaDoor
open Go.RowKit


/-- Integers as a row holds them: below 0 or not, the amount's slice, the amount. -/
abbrev Els := List (Bool × Value × Int)
def cel (l : Els) : List Value := l.flatMap fun e => [.bool e.1, e.2.1]
def pls (l : Els) : List Value := (l.filter fun e => !e.1).map (·.2.1)
def mis (l : Els) : List Value := (l.filter fun e => e.1).map (·.2.1)
def zsum (l : Els) : Int := (l.map fun e => sg e.1 e.2.2).sum
def psum (l : Els) : Int := ((l.filter fun e => !e.1).map (·.2.2)).sum
def msum (l : Els) : Int := ((l.filter fun e => e.1).map (·.2.2)).sum
def EOk (w : World) (m : Nat) (e : Bool × Value × Int) : Prop := ∃ a n c, e.2.1 = .slice a n c ∧ Num w (.slice a n c) e.2.2 m
/-- A slice of integers reads so. -/
def RdI (w : World) (ao : Option Addr) (l : Els) : Prop := ∀ a, ao = some a → ∀ j u, (cel l)[j]? = some u → w.cell? (a.add j) = some u

theorem cel_cons (e : Bool × Value × Int) (l : Els) : cel (e :: l) = .bool e.1 :: e.2.1 :: cel l := rfl
theorem cel_length (l : Els) : (cel l).length = l.length * 2 := by
  induction l with
  | nil => rfl
  | cons e l ih => rw [cel_cons]; simp [ih]; omega
theorem cel_get {l : Els} {k : Nat} (hk : k < l.length) : (cel l)[k * 2]? = some (.bool (l.getD k (false, undef, 0)).1) ∧ (cel l)[k * 2 + 1]? = some (l.getD k (false, undef, 0)).2.1 := by
  induction l generalizing k with
  | nil => simp at hk
  | cons e l ih =>
    cases k with
    | zero => exact ⟨rfl, rfl⟩
    | succ k =>
      have := ih (k := k) (by simpa using hk)
      rw [cel_cons, show (k + 1) * 2 = k * 2 + 1 + 1 by omega, show k * 2 + 1 + 1 + 1 = (k * 2 + 1) + 1 + 1 by omega]
      simpa using this
theorem zsum_split (l : Els) : zsum l = psum l - msum l := by
  induction l with
  | nil => rfl
  | cons e l ih =>
    obtain ⟨b, v, N⟩ := e
    simp only [zsum, psum, msum, sg] at ih ⊢
    cases b <;> simp <;> omega
theorem take_snoc {l : Els} {k : Nat} (hk : k < l.length) : l.take (k + 1) = l.take k ++ [l.getD k (false, undef, 0)] := by
  rw [List.take_succ_eq_append_getElem hk, List.getD_eq_getElem?_getD, List.getElem?_eq_getElem hk]
  rfl
theorem pls_snoc {l : Els} {k : Nat} (hk : k < l.length) {b : Bool} {v : Value} {N : Int} (he : l.getD k (false, undef, 0) = (b, v, N)) : pls (l.take (k + 1)) = pls (l.take k) ++ (if b then [] else [v]) := by
  rw [take_snoc hk, he]
  cases b <;> simp [pls]
theorem mis_snoc {l : Els} {k : Nat} (hk : k < l.length) {b : Bool} {v : Value} {N : Int} (he : l.getD k (false, undef, 0) = (b, v, N)) : mis (l.take (k + 1)) = mis (l.take k) ++ (if b then [v] else []) := by
  rw [take_snoc hk, he]
  cases b <;> simp [mis]
theorem pls_len (l : Els) : (pls l).length ≤ l.length := by unfold pls; rw [List.length_map]; exact List.length_filter_le ..
theorem mis_len (l : Els) : (mis l).length ≤ l.length := by unfold mis; rw [List.length_map]; exact List.length_filter_le ..

/-- The lists of words behind a row of numbers. -/
theorem lists_of {w : World} {m : Nat} (l : List (Value × Int)) (h : ∀ e ∈ l, Num w e.1 e.2 m) : ∃ ls : List (List Int), ls.length = (l.map (·.1)).length ∧ (∀ j, j < (l.map (·.1)).length → RdV w ((l.map (·.1)).getD j undef) (ls.getD j [])) ∧ (∀ j, (ls.getD j []).length ≤ m) ∧ sumv ls = (l.map (·.2)).sum ∧
    (l.map (·.2)).sum ≤ l.length * B64 ^ m := by
  induction l with
  | nil => exact ⟨[], rfl, fun j hj => by simp at hj, fun j => by simp, rfl, by simp⟩
  | cons e l ih =>
    obtain ⟨ls, h1, h2, h3, h4, h5⟩ := ih (fun x hx => h x (List.mem_cons_of_mem _ hx))
    have hn := h e (List.mem_cons_self ..)
    have hlt := hn.lt
    obtain ⟨l0, k1, k2, k3⟩ := hn
    refine ⟨l0 :: ls, by simpa using h1, ?_, ?_, ?_, ?_⟩
    · intro j hj
      cases j with
      | zero => exact k1
      | succ j => exact h2 j (by simpa using hj)
    · intro j
      cases j with
      | zero => exact k3
      | succ j => exact h3 j
    · rw [sumv_cons, h4, k2]; simp
    · simp only [List.map_cons, List.sum_cons, List.length_cons]
      have e : ((l.length + 1 : Nat) : Int) * B64 ^ m = l.length * B64 ^ m + B64 ^ m := by
        rw [Int.natCast_add, Int.add_mul]; simp
      omega

theorem info_int : (Tryd.prog.info? 28).map (fun i => (i.zero, i.size, i.bytes)) = some (some (.agg #[.bool false, .slice none 0 0]), 2, 32) := by kernel_rfl

/-- append(row of integers, integers ..). -/
theorem wpList_append_ints {P : Program} (w : World) {ops : Array Oper} {rest : List Oper} {o : Oper} {a : Act} {Q : Exit → Act → World → Prop} (hgd : o.guard = none) (s x : Operand) (t : TypeId)
    (ho : o.op = .call { callee := .builtin .append, args := #[s, x], argTypes := #[t, t] }) (ht : P.underlying t = some (.slice 28)) (hi : (P.info? 28).map (fun i => (i.zero, i.size, i.bytes)) = some (some (.agg #[.bool false, .slice none 0 0]), 2, 32))
    (base : Nat) (v : Value) (n : Nat) (xs : List Value) (hs : a.eval s = v) (hown : w.ownsRow base 28 2 v n xs)
    (ao : Option Addr) (m c : Nat) (l : Els) (hx : a.eval x = .slice ao m c) (hm : m = l.length) (hnone : ao = none → m = 0 ∧ c = 0) (hnews : RdI w ao l) (h1 : ∀ u ∈ cel l, u.oneCell' = true)
    (hn : 0 < n) (hM : n + m ≤ 65536) (hbase : base ≤ w.heap.size)
    (hK : ∀ g cap w', w'.ownsRow base 28 2 (.slice (some ⟨g, 0, none⟩) (n + m) cap) (n + m) (xs ++ cel l) → w.grownBy w' v.ownBlock → wpList P ops Q rest (a.put o.dst (.slice (some ⟨g, 0, none⟩) (n + m) cap)) w') : wpList P ops Q (o :: rest) a w := by
  obtain ⟨i, h2, h3, h4, h5⟩ := info_parts hi
  have fin : ∀ v' w', w'.ownsRow base 28 2 v' (n + m) (xs ++ cel l) → w.grownBy w' v.ownBlock → wpList P ops Q rest (a.put o.dst v') w' := by
    intro v' w' h hg
    have h' := h
    rcases h.2 with ⟨_, h0⟩ | ⟨g, cap, cur, rfl, _⟩
    · omega
    · exact hK g cap w' h' hg
  cases ao with
  | none =>
    obtain ⟨rfl, rfl⟩ := hnone rfl
    obtain rfl : l = [] := List.eq_nil_of_length_eq_zero hm.symm
    refine wpList_append_own_none hgd s x t ho base 28 i 2 ht h2 v n xs hs hown hx (fin v w ?_ ?_)
    · simpa [cel] using hown
    · exact ⟨rfl, rfl, rfl, Nat.le_refl _, fun _ _ _ => rfl⟩
  | some ad =>
    refine wpList_append_own_at w hgd s x t ho base 28 i (.agg #[.bool false, .slice none 0 0]) 2 32 ht h2 h3 h4 h5 rfl (by decide) v n xs hs hown ad m c (cel l) hx (by rw [cel_length, hm]) (hnews ad rfl) h1 (by unfold maxLen; omega) (by omega) hbase fun v' w' hown' hgr _ _ => fin v' w' hown' hgr

theorem newv1_at (w : World) (a : Value) (t : TypeId) (g : Nat) (hg : w.heap.size = g) : ∀ j u, [a][j]? = some u → (w.alloc (.cells #[a] t)).cell? ((⟨g, 0, none⟩ : Addr).add j) = some u := by
  subst hg
  exact newv1 w a t

set_option maxRecDepth 100000 in
set_option maxHeartbeats 4000000 in
theorem addw_num {w : World} (p : Bool) {a : Option Addr} {n c : Nat} {A : Int} {m : Nat} (hA : Num w (.slice a n c) A m) (al : Option Addr) (nl cl : Nat) (els : Els) (hnl : nl = els.length) (hnone : al = none → nl = 0 ∧ cl = 0)
    (hrd : RdI w al els) (hel : ∀ e ∈ els, EOk w m e) (hlen : els.length ≤ 1000) (hm : m ≤ 1000) :
    Calls Tryd.prog 20 #[.agg #[.bool p, .slice a n c], .slice al nl cl] w fun e w' => RetW w (sg p A + zsum els) (m + 1) e w' := by
  obtain ⟨E, hE⟩ : ∃ E : Els, E = (p, .slice a n c, A) :: els := ⟨_, rfl⟩
  have hEl : E.length = 1 + nl := by rw [hE, hnl]; simp; omega
  have hEok : ∀ e ∈ E, EOk w m e := by
    intro e he
    rw [hE] at he
    rcases List.mem_cons.1 he with rfl | he
    · exact ⟨a, n, c, rfl, hA⟩
    · exact hel e he
  have hz : sg p A + zsum els = psum E - msum E := by rw [← zsum_split, hE]; simp [zsum]
  have hcE : [Value.bool p, .slice a n c] ++ cel els = cel E := by rw [hE]; rfl
  have hones : ∀ u ∈ cel els, u.oneCell' = true := by
    intro u hu
    obtain ⟨e, he, hu⟩ := List.mem_flatMap.1 hu
    obtain ⟨a', n', c', h1, _⟩ := hel e he
    rw [h1] at hu
    simp at hu
    rcases hu with rfl | rfl <;> rfl
  have hb0 := below_alloc w (.cells #[.bool p, .slice a n c] 28)
  have hb1 := hb0.alloc (Nat.le_of_lt (by simp)) (.cells #[.bool false, .slice none 0 0] 28)
  have hb2 := hb1.alloc (Nat.le_of_lt (by simp; omega)) (.cells #[.bool p, .slice a n c] 28)
  have s0 := slot_kept (heap_alloc2_new w (.cells #[.bool p, .slice a n c] 28) (.cells #[.bool false, .slice none 0 0] 28)) (below_alloc _ (.cells #[.bool p, .slice a n c] 28))
  have s2 := heap_alloc3_new w (.cells #[.bool p, .slice a n c] 28) (.cells #[.bool false, .slice none 0 0] 28) (.cells #[.bool p, .slice a n c] 28)
  have hrd2 : RdI (((w.alloc (.cells #[.bool p, .slice a n c] 28)).alloc (.cells #[.bool false, .slice none 0 0] 28)).alloc (.cells #[.bool p, .slice a n c] 28)) al els := by
    intro ad had j u hu
    have h1 := hrd ad had j u hu
    rw [hb2.cell (World.block_lt_of_cell? _ _ h1)]
    exact h1
  have hrow : (((w.alloc (.cells #[.bool p, .slice a n c] 28)).alloc (.cells #[.bool false, .slice none 0 0] 28)).alloc (.cells #[.bool p, .slice a n c] 28)).ownsRow (w.heap.size + 2) 28 2 (.slice (some ⟨w.heap.size + 2, 0, none⟩) 1 1) 1 [.bool p, .slice a n c] :=
    ⟨rfl, Or.inr ⟨w.heap.size + 2, 1, #[.bool p, .slice a n c], rfl, Nat.le_refl _, s2, Nat.le_refl _, by decide, rfl, rfl⟩⟩
  obtain ⟨N, hN⟩ : ∃ N, 1 + nl = N := ⟨_, rfl⟩
  have HEL := Lib.hid hEl
  have HN := Lib.hid hN
  have HZ := Lib.hid hz
  have HCE := Lib.hid hcE
  have HOK := Lib.hid hEok
  have HNL := Lib.hid hnl
  have hNb : N ≤ 1001 := by omega
  have hn1 : 1 + nl ≤ 65536 := by omega
  clear hE hEl hz hcE hEok hnl hN hel hlen hA hrd
  go_enter Tryd.func20, Tryd.ntmps20
  go_wp2_with (at_builtin; refine wpList_append_ints _ rfl (.tmp 10) (.tmp 11) 87 rfl Tryd.underlying87 info_int (w.heap.size + 2) _ 1 [.bool p, .slice a n c] rfl hrow al nl cl els rfl HNL.out hnone hrd2 hones (by decide) hn1 (by simp) ?_; intro g cap w1 hown1 hgr1; rw [HN.out] at hown1; rw [HN.out])
  have hgr : (((w.alloc (.cells #[.bool p, .slice a n c] 28)).alloc (.cells #[.bool false, .slice none 0 0] 28)).alloc (.cells #[.bool p, .slice a n c] 28)).grownBy w1 (some (w.heap.size + 2)) := hgr1
  have hsz1 : w.heap.size + 3 ≤ w1.heap.size := by have := hgr.size; simpa using this
  have hbw : Below w.heap.size w w1 := hb2.trans (grown_below hgr (by simp; omega) (fun g' e => by cases e; omega))
  have s1 : w1.heap[w.heap.size + 1]? = some (.cells #[.bool false, .slice none 0 0] 28 (0, 0)) := by
    rw [hgr.block _ (by simp) (by simp)]; exact s0
  rw [HCE.out] at hown1
  have hrdE : RdI w1 (some ⟨g, 0, none⟩) E := by
    intro ad had j u hu
    cases had
    exact hown1.cells rfl j u hu
  have hglt : g < w1.heap.size := (hown1.lt g rfl).2
  have HRD := Lib.hid hrdE
  have HOK1 : Hid (∀ e ∈ E, EOk w1 m e) := by
    intro e he
    obtain ⟨a', n', c', h1, h2⟩ := HOK.out e he
    exact ⟨a', n', c', h1, h2.below hbw⟩
  clear hgr1 hgr hrow hrd2 s0 s2 hb0 hb1 hb2 hones HOK HCE hnone hown1 hrdE
  go_loopw [5, 6, 14] (fun vp vm ii wr => ∃ k : Nat, k ≤ N ∧ ii = .int .i64 k ∧ OwV w1.heap.size wr vp (pls (E.take k)) ∧ OwV w1.heap.size wr vm (mis (E.take k)) ∧ Below w1.heap.size w1 wr ∧ (∀ g', vp.ownBlock = some g' → vm.ownBlock ≠ some g'))
    (fun _ _ ii _ => N - (intOf ii).toNat)
  case atStart => exact ⟨0, Nat.zero_le _, rfl, OwV.nil _ _, OwV.nil _ _, Below.refl _ _, by simp [Value.ownBlock]⟩
  case round =>
    obtain ⟨k, hk, rfl, hOp, hOm, hbl, hdis⟩ := hrel
    by_cases hlt : k < N
    · have hkE : k < E.length := by rw [HEL.out, HN.out]; exact hlt
      obtain ⟨b, v, M, he⟩ : ∃ b v M, E.getD k (false, undef, 0) = (b, v, M) := ⟨_, _, _, rfl⟩
      have hmem : (b, v, M) ∈ E := by
        rw [← he, List.getD_eq_getElem?_getD, List.getElem?_eq_getElem hkE]; exact List.getElem_mem hkE
      obtain ⟨ak, nk, ck, hv, hNk⟩ := HOK1.out _ hmem
      simp only at hv
      subst hv
      obtain ⟨q0, q1⟩ := cel_get hkE
      rw [he] at q0 q1
      have c0 := HRD.out _ rfl _ _ q0
      have c1 := HRD.out _ rfl _ _ q1
      rw [addr_add_none, Nat.zero_add] at c0 c1
      have d0 : wr.cell? ⟨g, k * 2, none⟩ = some (.bool b) := by rw [hbl.cell (p := ⟨g, k * 2, none⟩) hglt]; exact c0
      have d1 : wr.cell? ⟨g, k * 2 + 1, none⟩ = some (.slice ak nk ck) := by rw [hbl.cell (p := ⟨g, k * 2 + 1, none⟩) hglt]; exact c1
      have hps := pls_snoc hkE he
      have hms := mis_snoc hkE he
      have hone : ∀ u ∈ [Value.slice ak nk ck], u.oneCell' = true := by intro u hu; rw [List.mem_singleton] at hu; subst hu; rfl
      have hpl := pls_len (E.take k)
      have hml := mis_len (E.take k)
      rw [List.length_take] at hpl hml
      have hpl2 : (pls (E.take k)).length + 1 ≤ 4294967296 := by omega
      have hml2 : (mis (E.take k)).length + 1 ≤ 4294967296 := by omega
      have HPS := Lib.hid hps
      have HMS := Lib.hid hms
      have HE := Lib.hid he
      have hbs := hbl.size
      clear q0 q1 c0 c1 hps hms he hpl hml hmem hNk
      cases b with
      | true =>
        have HPS' : Hid (pls (E.take (k + 1)) = pls (E.take k)) := by show _ = _; have := HPS.out; simpa using this
        have HMS' : Hid (mis (E.take (k + 1)) = mis (E.take k) ++ [.slice ak nk ck]) := by show _ = _; have := HMS.out; simpa using this
        clear HPS HMS
        go_wp2_with (at_builtin; refine wpList_append_vals _ rfl (.tmp 20) (.tmp 23) 88 rfl Tryd.underlying88 info_nat w1.heap.size u6 (mis (E.take k)) rfl ((hOm.alloc (.cells #[.bool true, .slice ak nk ck] 28)).alloc _) ⟨wr.heap.size + 1, 0, none⟩ 1 1 [.slice ak nk ck] rfl rfl (newv1_at _ _ _ _ (by simp)) hone hml2 (by simp; omega) ?_; intro vm2 w2 hOm2 hg2 hat2)
        have hbl' := hbl.alloc hbs (.cells #[.bool true, .slice ak nk ck] 28)
        have hOm' := hOm.alloc (.cells #[.bool true, .slice ak nk ck] 28)
        have hb12 : Below w1.heap.size w1 w2 := below_app hbl' hOm' (Nat.le_refl _) (by simp; omega) hg2
        have hOp2 : OwV w1.heap.size w2 u5 (pls (E.take k)) := ((hOp.alloc (.cells #[.bool true, .slice ak nk ck] 28)).alloc _).grown hg2 (fun g' e h => hdis g' e h)
        go_roundw
        case rel =>
          refine ⟨k + 1, by omega, by go_num, by rw [HPS'.out]; exact hOp2, by rw [HMS'.out]; exact hOm2, hb12, ?_⟩
          intro g' e1 e2
          rcases hat2 with h | h
          · exact hdis g' e1 (by rw [← h]; exact e2)
          · rw [h] at e2
            have := (hOp.lt g' e1).2
            simp at e2; omega
        case measure => simp [intOf]; omega
      | false =>
        have HPS' : Hid (pls (E.take (k + 1)) = pls (E.take k) ++ [.slice ak nk ck]) := by show _ = _; have := HPS.out; simpa using this
        have HMS' : Hid (mis (E.take (k + 1)) = mis (E.take k)) := by show _ = _; have := HMS.out; simpa using this
        clear HPS HMS
        go_wp2_with (at_builtin; refine wpList_append_vals _ rfl (.tmp 25) (.tmp 28) 88 rfl Tryd.underlying88 info_nat w1.heap.size u5 (pls (E.take k)) rfl ((hOp.alloc (.cells #[.bool false, .slice ak nk ck] 28)).alloc _) ⟨wr.heap.size + 1, 0, none⟩ 1 1 [.slice ak nk ck] rfl rfl (newv1_at _ _ _ _ (by simp)) hone hpl2 (by simp; omega) ?_; intro vp2 w2 hOp2 hg2 hat2)
        have hbl' := hbl.alloc hbs (.cells #[.bool false, .slice ak nk ck] 28)
        have hOp' := hOp.alloc (.cells #[.bool false, .slice ak nk ck] 28)
        have hb12 : Below w1.heap.size w1 w2 := below_app hbl' hOp' (Nat.le_refl _) (by simp; omega) hg2
        have hOm2 : OwV w1.heap.size w2 u6 (mis (E.take k)) := ((hOm.alloc (.cells #[.bool false, .slice ak nk ck] 28)).alloc _).grown hg2 (fun g' e h => hdis g' h e)
        go_roundw
        case rel =>
          refine ⟨k + 1, by omega, by go_num, by rw [HPS'.out]; exact hOp2, by rw [HMS'.out]; exact hOm2, hb12, ?_⟩
          intro g' e1 e2
          rcases hat2 with h | h
          · exact hdis g' (by rw [← h]; exact e1) e2
          · rw [h] at e1
            have := (hOm.lt g' e2).2
            simp at e1; omega
        case measure => simp [intOf]; omega
    · have hkN : k = N := by omega
      subst hkN
      have hall : E.take k = E := List.take_of_length_le (by rw [HEL.out, HN.out]; exact Nat.le_refl _)
      rw [hall] at hOp hOm
      have hbwr := hbw.trans (hbl.mono (by omega))
      have sr := slot_kept s1 hbl
      obtain ⟨lp, hp1, hp2, hp3, hp4, hp5⟩ := lists_of (w := wr) (m := m) ((E.filter fun e => !e.1).map (·.2)) (by
        intro e he
        obtain ⟨x, hx, rfl⟩ := List.mem_map.1 he
        obtain ⟨a', n', c', h1, h2⟩ := HOK1.out x (List.mem_filter.1 hx).1
        rw [h1]; exact h2.below hbl)
      obtain ⟨lm, hm1, hm2, hm3, hm4, hm5⟩ := lists_of (w := wr) (m := m) ((E.filter fun e => e.1).map (·.2)) (by
        intro e he
        obtain ⟨x, hx, rfl⟩ := List.mem_map.1 he
        obtain ⟨a', n', c', h1, h2⟩ := HOK1.out x (List.mem_filter.1 hx).1
        rw [h1]; exact h2.below hbl)
      simp only [List.map_map] at hp1 hp2 hp4 hp5 hm1 hm2 hm4 hm5
      have ep : (E.filter fun e => !e.1).map ((fun x => x.1) ∘ fun x => x.2) = pls E := rfl
      have em : (E.filter fun e => e.1).map ((fun x => x.1) ∘ fun x => x.2) = mis E := rfl
      have eps : ((E.filter fun e => !e.1).map ((fun x => x.2) ∘ fun x => x.2)).sum = psum E := rfl
      have ems : ((E.filter fun e => e.1).map ((fun x => x.2) ∘ fun x => x.2)).sum = msum E := rfl
      rw [ep] at hp1 hp2
      rw [em] at hm1 hm2
      rw [eps] at hp4 hp5
      rw [ems] at hm4 hm5
      obtain ⟨aP, cP, rfl, hP1, hP2, hP3⟩ := hOp.form
      obtain ⟨aM, cM, rfl, hM1, hM2, hM3⟩ := hOm.form
      have hB := pow_pos' B64_pos m
      have hlp : ((List.map (fun x : Bool × Value × Int => x.2) (E.filter fun e => !e.1)).length : Int) ≤ 1001 := by
        rw [List.length_map]
        have h1 := List.length_filter_le (fun e : Bool × Value × Int => !e.1) E
        have h2 := HEL.out
        have h3 := HN.out
        omega
      have hlm : ((List.map (fun x : Bool × Value × Int => x.2) (E.filter fun e => e.1)).length : Int) ≤ 1001 := by
        rw [List.length_map]
        have h1 := List.length_filter_le (fun e : Bool × Value × Int => e.1) E
        have h2 := HEL.out
        have h3 := HN.out
        omega
      have hB1 : B64 ^ (m + 1) = B64 ^ m * 18446744073709551616 := by rw [Int.pow_succ]; rfl
      have hs1 : sumv lp < B64 ^ (m + 1) := by
        have := Int.mul_le_mul_of_nonneg_right hlp (Int.le_of_lt hB)
        omega
      have hs2 : sumv lm < B64 ^ (m + 1) := by
        have := Int.mul_le_mul_of_nonneg_right hlm (Int.le_of_lt hB)
        omega
      have hpl := pls_len E
      have hml := mis_len E
      have hEl2 : E.length ≤ 1001 := by rw [HEL.out, HN.out]; exact hNb
      have HP := Lib.hid ((add_any aP (pls E).length cP (pls E) lp wr rfl hp1 hP1 hP2 hP3 hp2 (fun j => by have := hp3 j; unfold MaxW; omega) (by omega)).mono fun e w' hr => RetNum.retn (m := m + 1) hr hs1)
      have HM := fun w2 (hx : Below wr.heap.size wr w2) => (add_any aM (mis E).length cM (mis E) lm w2 rfl hm1 hM1 hM2 (hM3.below hx) (fun j hj => (hm2 j hj).below hx) (fun j => by have := hm3 j; unfold MaxW; omega) (by omega)).mono fun e w' hr => RetNum.retn (m := m + 1) hr hs2
      have HV : Hid (sumv lp - sumv lm = sg p A + zsum els) := by show _ = _; rw [hp4, hm4, HZ.out]
      have hsr := hbwr.size
      have hsr1 := hbl.size
      clear hp2 hp3 hp4 hp5 hm2 hm3 hm4 hm5 hlp hlm hB1 hs1 hs2 hP3 hM3 hOp hOm hp1 hm1 ep em eps ems hall hdis HOK1 HRD
      go_wp2_with fail
      refine HP.out.mono ?_
      rintro e w2 ⟨aX, nX, cX, rfl, hX, hb2⟩
      go_wp2_with fail
      refine (HM w2 hb2).mono ?_
      rintro e w3 ⟨aY, nY, cY, rfl, hY, hb3⟩
      go_wp2_with fail
      refine (diff_num (p := m + 1) (hX.num.below hb3) hY.num (Nat.le_refl _) (Nat.le_refl _) (by omega)).mono ?_
      rintro e w4 ⟨neg', aZ, nZ, cZ, NZ, rfl, hZ, hZv, hZc, hb4⟩
      have sz := slot_kept (slot_kept (slot_kept sr hb2) hb3) hb4
      obtain ⟨k0, k1, f0, f1⟩ := slot2 sz
      have hb5 := hbwr.trans (hb2.mono hbwr.size)
      replace hb5 := hb5.trans (hb3.mono hb5.size)
      replace hb5 := hb5.trans (hb4.mono hb5.size)
      have z2 := hb2.size
      have z3 := hb3.size
      obtain ⟨hend, hN, hfin⟩ := slot_end2 (neg' := neg') sz hb5 (Nat.le_add_right _ _) hZ (by omega)
      go_wp2_with fail
      refine bodyPost_ret (results_cell_row rfl _ _ (w.heap.size + 1) 28 _ (0, 0) _ rfl hend Tryd.underlying28 rfl (by kernel_rfl)) rfl ?_
      exact ⟨neg', _, _, _, _, rfl, hN, by rw [← HV.out, hZv], hZc, hfin⟩


theorem RetW.alloc {w : World} {o : Obj} {Z : Int} {m : Nat} {e : Ending} {w' : World} (h : RetW (w.alloc o) Z m e w') : RetW w Z m e w' := by
  obtain ⟨neg, a, n, c, N, h1, h2, h3, h4, h5⟩ := h
  exact ⟨neg, a, n, c, N, h1, h2.base (by simp), h3, h4, (below_alloc w o).trans (h5.mono (by simp))⟩

theorem rdi_new (w : World) (l : Els) (t : TypeId) (g : Nat) (hg : w.heap.size = g) : RdI (w.alloc (.cells (cel l).toArray t)) (some ⟨g, 0, none⟩) l := by
  subst hg
  intro ad had j u hu
  cases had
  rw [addr_add_none, Nat.zero_add, World.cell?_alloc_new, List.getElem?_toArray]
  exact hu

theorem addw1_num {w : World} (p q : Bool) {a : Option Addr} {n c : Nat} {A : Int} {m : Nat} {a' : Option Addr} {n' c' : Nat} {B : Int} {t : TypeId} {g : Nat} (hg : w.heap.size = g) (hA : Num w (.slice a n c) A m) (hB : Num w (.slice a' n' c') B m) (hm : m ≤ 1000) :
    Calls Tryd.prog 20 #[.agg #[.bool p, .slice a n c], .slice (some ⟨g, 0, none⟩) 1 1] (w.alloc (.cells #[.bool q, .slice a' n' c'] t)) fun e w' => RetW w (sg p A + sg q B) (m + 1) e w' := by
  have hb := below_alloc w (.cells #[.bool q, .slice a' n' c'] t)
  have hr : RdI (w.alloc (.cells #[.bool q, .slice a' n' c'] t)) (some ⟨g, 0, none⟩) [(q, .slice a' n' c', B)] := rdi_new w [(q, .slice a' n' c', B)] t g hg
  refine (addw_num p (hA.below hb) (some ⟨g, 0, none⟩) 1 1 [(q, .slice a' n' c', B)] rfl (fun h => by cases h) hr ?_ (by simp) hm).mono ?_
  · intro e he
    rw [List.mem_singleton] at he
    subst he
    exact ⟨a', n', c', rfl, hB.below hb⟩
  · intro e w' h
    have h2 := h.alloc
    simpa [zsum] using h2

set_option maxRecDepth 100000 in
set_option maxHeartbeats 400000 in
theorem subw_num {w : World} (p q : Bool) {a : Option Addr} {n c : Nat} {A : Int} {m : Nat} {a' : Option Addr} {n' c' : Nat} {B : Int} (hA : Num w (.slice a n c) A m) (hB : Num w (.slice a' n' c') B m) (hm : m ≤ 1000) :
    Calls Tryd.prog 22 #[.agg #[.bool p, .slice a n c], .agg #[.bool q, .slice a' n' c']] w fun e w' => RetW w (sg p A - sg q B) (m + 1) e w' := by
  have hb0 := below_alloc w (.cells #[.bool p, .slice a n c] 28)
  have hb1 := hb0.alloc (Nat.le_of_lt (by simp)) (.cells #[.bool !q, .slice a' n' c'] 28)
  have hb2 := hb1.alloc (Nat.le_of_lt (by simp; omega)) (.cells #[.bool false, .slice none 0 0] 28)
  have s0 := heap_alloc3_new w (.cells #[.bool p, .slice a n c] 28) (.cells #[.bool !q, .slice a' n' c'] 28) (.cells #[.bool false, .slice none 0 0] 28)
  have hZ : sg p A + sg (!q) B = sg p A - sg q B := by rw [sg_not]; omega
  have HA := hA.below hb2
  have HB := hB.below hb2
  go_enter Tryd.func22, Tryd.ntmps22
  go_wp2_with fail
  refine (addw1_num p (!q) (by simp) HA HB hm).mono ?_
  rintro e w4 ⟨neg', aZ, nZ, cZ, NZ, rfl, hN, hZv, hZc, hb4⟩
  have s4 := slot_kept s0 hb4
  obtain ⟨k0, k1, f0, f1⟩ := slot2 s4
  have hbw := hb2.trans (hb4.mono hb2.size)
  obtain ⟨hend, hN2, hfin⟩ := slot_end2 (neg' := neg') s4 hbw (Nat.le_add_right _ _) hN (by simp)
  go_wp2_with fail
  refine bodyPost_ret (results_cell_row rfl _ _ (w.heap.size + 2) 28 _ (0, 0) _ rfl hend Tryd.underlying28 rfl (by kernel_rfl)) rfl ?_
  exact ⟨neg', _, _, _, _, rfl, hN2, by rw [← hZ, hZv], hZc, hfin⟩

theorem text_num {w : World} {u : Value} {N : Int} {m : Nat} (h : Num w u N m) (hm : m ≤ 1000) (hN : N < 10000000000000000000) :
    Calls Tryd.prog 66 #[u] w fun e w' => RetV w (.string (strOfNums (txt 19 N))) e w' := by
  obtain ⟨a, n, c, l, rfl, h1, h2, h3, h4, h5, rfl, h7⟩ := h.open
  exact text_small a n c l w h1 h2 h3 h4 h5 (by unfold MaxW; omega) hN

set_option maxRecDepth 100000 in
set_option maxHeartbeats 400000 in
theorem textw_neg {w : World} {a : Option Addr} {n c : Nat} {N : Int} {m : Nat} (h : Num w (.slice a n c) N m) (hm : m ≤ 1000) (h0 : N ≠ 0) (hN : N < 10000000000000000000) :
    Calls Tryd.prog 26 #[.agg #[.bool true, .slice a n c]] w fun e w' => RetV w (.string (⟨#[45]⟩ ++ strOfNums (txt 19 N))) e w' := by
  have hb0 := below_alloc w (.cells #[.bool true, .slice a n c] 28)
  have s0 := heap_alloc_new w (.cells #[.bool true, .slice a n c] 28)
  have hc : cmpI (sg true N) 0 = -1 := cmpI_lt (by have := h.nonneg; rw [sg_true]; omega)
  have HT := fun w1 (hx : Below w.heap.size w w1) => text_num (h.below hx) hm hN
  obtain ⟨T, hT⟩ : ∃ T, T = strOfNums (txt 19 N) := ⟨_, rfl⟩
  have hT2 : T.size ≤ 19 := by
    rw [hT]
    show (List.map (fun n : Int => UInt8.ofNat n.toNat) (txt 19 N)).toArray.size ≤ 19
    rw [List.size_toArray, List.length_map]
    unfold txt
    split
    · decide
    · rw [List.length_drop, dg_length]; omega
  rw [← hT] at HT ⊢
  clear hT hN h0
  go_enter Tryd.func26, Tryd.ntmps26
  go_wp2_with fail
  refine (sign_num true (h.below hb0) (by omega)).mono ?_
  rintro e w1 ⟨rfl, hb1⟩
  rw [hc]
  obtain ⟨k0, k1, f0, f1⟩ := slot2 (slot_kept s0 hb1)
  have hbw := hb0.trans (hb1.mono hb0.size)
  go_wp2_with fail
  refine (HT _ hbw).mono ?_
  rintro e w2 ⟨rfl, hb2⟩
  go_wp2_with fail
  trace_state
  go_ret
  exact ⟨rfl, hbw.trans (hb2.mono hbw.size)⟩

end Go.Proofs.YtfanhllcoaondaaDoor

namespace Go.Proofs.YtfanhllcoaondaaDoor
open Go.RowKit

def prodl : List Int → Int
  | [] => 1
  | x :: l => x * prodl l
theorem prodl_append (l m : List Int) : prodl (l ++ m) = prodl l * prodl m := by
  induction l with
  | nil => simp [prodl]
  | cons x l ih => rw [List.cons_append, prodl, prodl, ih, Int.mul_assoc]
theorem prodl_halves (l : List Int) (h : Nat) : prodl (l.take h) * prodl (l.drop h) = prodl l := by rw [← prodl_append, List.take_append_drop]

/-- Every value of a row is a number. -/
def Nums (w : World) (m : Nat) (vs : List Value) (Ns : List Int) : Prop := vs.length = Ns.length ∧ ∀ j, j < vs.length → ∃ a n c, vs.getD j undef = .slice a n c ∧ Num w (.slice a n c) (Ns.getD j 0) m
theorem Nums.below {w w' : World} {m : Nat} {vs : List Value} {Ns : List Int} (h : Nums w m vs Ns) (hb : Below w.heap.size w w') : Nums w' m vs Ns := by
  refine ⟨h.1, fun j hj => ?_⟩
  obtain ⟨a, n, c, e, k⟩ := h.2 j hj
  exact ⟨a, n, c, e, k.below hb⟩
theorem getD_take' {α : Type} (l : List α) (d : α) {k j : Nat} (h : j < k) : (l.take k).getD j d = l.getD j d := by
  rw [List.getD_eq_getElem?_getD, List.getElem?_take, if_pos h, List.getD_eq_getElem?_getD]
theorem getD_drop' {α : Type} (l : List α) (d : α) (k j : Nat) : (l.drop k).getD j d = l.getD (k + j) d := by
  rw [List.getD_eq_getElem?_getD, List.getElem?_drop, List.getD_eq_getElem?_getD]
theorem Nums.take {w : World} {m : Nat} {vs : List Value} {Ns : List Int} (h : Nums w m vs Ns) (k : Nat) : Nums w m (vs.take k) (Ns.take k) := by
  refine ⟨by rw [List.length_take, List.length_take, h.1], fun j hj => ?_⟩
  rw [List.length_take] at hj
  rw [getD_take' _ _ (by omega), getD_take' _ _ (by omega)]
  exact h.2 j (by omega)
theorem Nums.drop {w : World} {m : Nat} {vs : List Value} {Ns : List Int} (h : Nums w m vs Ns) (k : Nat) : Nums w m (vs.drop k) (Ns.drop k) := by
  refine ⟨by rw [List.length_drop, List.length_drop, h.1], fun j hj => ?_⟩
  rw [List.length_drop] at hj
  rw [getD_drop', getD_drop']
  exact h.2 (k + j) (by omega)
theorem RdRow.drop {w : World} {b o : Nat} {vs : List Value} (h : RdRow w (some ⟨b, o, none⟩) vs) (k : Nat) : RdRow w (some ⟨b, o + k, none⟩) (vs.drop k) := by
  rcases h with rfl | ⟨b', o', e, h⟩
  · exact Or.inl (by simp)
  · cases e
    refine Or.inr ⟨b, o + k, rfl, fun j v hv => ?_⟩
    rw [List.getElem?_drop] at hv
    rw [Nat.add_assoc]
    exact h _ v hv
theorem RdRow.take' {w : World} {ao : Option Addr} {vs : List Value} (h : RdRow w ao vs) (k : Nat) : RdRow w ao (vs.take k) := by
  rcases h with rfl | ⟨b, off, rfl, h⟩
  · exact Or.inl (by simp)
  · refine Or.inr ⟨b, off, rfl, fun j v hv => h j v ?_⟩
    rw [List.getElem?_take] at hv
    split at hv
    · exact hv
    · cases hv

/-- What whole.product returns. -/
def RetPr (w : World) (N : Int) (n M : Nat) (e : Ending) (w' : World) : Prop :=
  ∃ a k c, e = .returned (.slice a k c) ∧ Num w' (.slice a k c) N M ∧ (2 ≤ n → NewN w.heap.size w' (.slice a k c) N M) ∧ Below w.heap.size w w'

set_option maxRecDepth 100000 in
set_option maxHeartbeats 4000000 in
theorem product_num : ∀ (n : Nat) (ao : Option Addr) (cap : Nat) (vs : List Value) (Ns : List Int) (m : Nat) (w : World), vs.length = n → 1 ≤ n → n ≤ 1001 → n ≤ cap → cap ≤ 9223372036854775807 → RdRow w ao vs → Nums w m vs Ns → m ≤ 90 →
    Calls Tryd.prog 64 #[.slice ao n cap] w fun e w' => RetPr w (prodl Ns) n (n * m) e w' := by
  intro n
  induction n using Nat.strongRecOn with
  | _ n ih =>
  intro ao cap vs Ns m w hvs hn1 hn2 hcap hcap2 hrow hnums hm
  obtain ⟨b, o, rfl, hcells⟩ := hrow.resolve_left (by intro e; subst e; simp at hvs; omega)
  by_cases h1 : n = 1
  · subst h1
    obtain ⟨a, k, c, hv, hN⟩ := hnums.2 0 (by omega)
    have hNs : Ns = [Ns.getD 0 0] := by
      have := hnums.1
      match Ns, (show Ns.length = 1 by omega) with
      | [x], _ => rfl
    have hcell : w.cell? ⟨b, o, none⟩ = some (.slice a k c) := by
      rw [← hv]
      refine hcells 0 _ ?_
      rw [List.getD_eq_getElem?_getD, List.getElem?_eq_getElem (by omega)]; rfl
    have hval : prodl Ns = Ns.getD 0 0 := by rw [hNs]; simp [prodl]
    have HV := Lib.hid hval
    clear hv hNs hval hvs hcells hnums hrow ih
    go_enter Tryd.func64, Tryd.ntmps64
    go_wp2_with fail
    go_ret
    exact ⟨a, k, c, rfl, by rw [HV.out, Nat.one_mul]; exact hN, fun h => by omega, Below.refl _ _⟩
  · obtain ⟨h, hh⟩ : ∃ h, h = n / 2 := ⟨_, rfl⟩
    have hh1 : 1 ≤ h := by omega
    have hhn : h < n := by omega
    have hn1I : ((n : Int) == 1) = false := by simp; omega
    have htd : ((n : Int)).tdiv 2 = (h : Int) := by rw [Int.tdiv_eq_ediv_of_nonneg (by omega)]; omega
    have hhc : h ≤ cap := by omega
    have hhn2 : h ≤ n := by omega
    have hcne : ¬ cap = h := by omega
    have bd := bdn (Below.refl w.heap.size w) 1
    have hrd : RdRow w.drew (some ⟨b, o, none⟩) vs := hrow.below bd
    have hnd : Nums w.drew m vs Ns := hnums.below bd
    have HP1 := Lib.hid (ih h hhn (some ⟨b, o, none⟩) cap (vs.take h) (Ns.take h) m w.drew (by rw [List.length_take]; omega) hh1 (by omega) hhc hcap2 (hrd.take' h) (hnd.take h) hm)
    have HP2 := fun w2 (hx : Below w.drew.heap.size w.drew w2) => ih (n - h) (by omega) (some ⟨b, o + h, none⟩) (cap - h) (vs.drop h) (Ns.drop h) m w2 (by rw [List.length_drop]; omega) (by omega) (by omega) (by omega) (by omega) ((hrd.drop h).below hx) ((hnd.drop h).below hx) hm
    have hmul : h * m + (n - h) * m = n * m := by rw [← Nat.add_mul]; congr 1; omega
    have hnm : n * m ≤ 100000 := by
      have := Nat.mul_le_mul hn2 hm
      omega
    have HH := Lib.hid (prodl_halves Ns h)
    have HMUL := Lib.hid hmul
    have HS : w.drew.heap.size = w.heap.size := rfl
    clear hh hvs hcells hnums hrow ih hmul
    go_enter Tryd.func64, Tryd.ntmps64
    go_wp2_with fail
    go_region_with (first
      | (go_at_call_of 64 (Value.slice (some ⟨b, o, none⟩) h cap); refine HP1.out.mono ?_; rintro e w2 ⟨aL, nL, cL, rfl, hL, -, hb2⟩)
      | (go_at_call_of 64 (Value.slice (some ⟨b, o + h, none⟩) (n - h) (cap - h)); refine (HP2 _ (by assumption)).mono ?_; rintro e w3 ⟨aR, nR, cR, rfl, hR, -, hb3⟩; have hL3 := hL.below hb3)
      | (go_at_call 94; refine (mul_num 40 hL3 hR (p := n * m) (by rw [HMUL.out]; exact Nat.le_refl _) hnm (by decide)).mono ?_; rintro e w4 ⟨aZ, nZ, cZ, rfl, hZ, hb4⟩))
    have k1 := bd.trans (hb2.mono (Nat.le_refl _))
    have k2 := k1.trans (hb3.mono k1.size)
    have k3 := k2.trans (hb4.mono k2.size)
    go_wp2_with fail
    go_ret
    rw [HH.out] at hZ
    exact ⟨aZ, nZ, cZ, rfl, hZ.num, fun _ => hZ.base k2.size, k3⟩
end Go.Proofs.YtfanhllcoaondaaDoor

namespace Go.Proofs.YtfanhllcoaondaaDoor
open Go.RowKit

/-- The sign of a product. -/
def negf (p : Bool) (l : Els) : Bool := l.foldl (fun b e => !(b == e.1)) p
def zprod (l : Els) : Int := prodl (l.map fun e => sg e.1 e.2.2)
theorem sg_mul (p b : Bool) (A N : Int) : sg (!(p == b)) (A * N) = sg p A * sg b N := by
  cases p <;> cases b <;> simp [sg, Int.neg_mul, Int.mul_neg]
theorem negf_prod (p : Bool) (A : Int) (l : Els) : sg (negf p l) (A * prodl (l.map (·.2.2))) = sg p A * zprod l := by
  induction l generalizing p A with
  | nil => simp [negf, zprod, prodl]
  | cons e l ih =>
    have h := ih (!(p == e.1)) (A * e.2.2)
    rw [sg_mul, Int.mul_assoc, Int.mul_assoc] at h
    simp only [zprod, List.map_cons, prodl] at h ⊢
    exact h
theorem negf_snoc {p : Bool} {l : Els} {k : Nat} (hk : k < l.length) {b : Bool} {v : Value} {N : Int} (he : l.getD k (false, undef, 0) = (b, v, N)) : negf p (l.take (k + 1)) = !(negf p (l.take k) == b) := by
  rw [take_snoc hk, he, negf, List.foldl_append]; rfl
theorem mags_snoc {l : Els} {k : Nat} (hk : k < l.length) {b : Bool} {v : Value} {N : Int} (he : l.getD k (false, undef, 0) = (b, v, N)) : (l.take (k + 1)).map (·.2.1) = (l.take k).map (·.2.1) ++ [v] := by
  rw [take_snoc hk, he, List.map_append]; rfl

set_option maxRecDepth 100000 in
set_option maxHeartbeats 4000000 in
theorem mulw_num {w : World} (p : Bool) {a : Option Addr} {n c : Nat} {A : Int} {m : Nat} (hA : Num w (.slice a n c) A m) (b o nl cl : Nat) (els : Els) (hnl : nl = els.length) (hnl0 : 1 ≤ nl)
    (hrd : RdI w (some ⟨b, o, none⟩) els) (hel : ∀ e ∈ els, EOk w m e) (hlen : nl ≤ 100) (hm : m ≤ 90) :
    Calls Tryd.prog 24 #[.agg #[.bool p, .slice a n c], .slice (some ⟨b, o, none⟩) nl cl] w fun e w' => RetW w (sg p A * zprod els) ((1 + nl) * m) e w' := by
  obtain ⟨w0, hw0⟩ : ∃ w0, w0 = (((w.alloc (.cells #[.bool p, .slice a n c] 28)).alloc (.cells #[.bool false, .slice none 0 0] 28)).alloc (.cells #[.slice a n c] 26)).drew := ⟨_, rfl⟩
  have hb0 := below_alloc w (.cells #[.bool p, .slice a n c] 28)
  have hb1 := hb0.alloc (Nat.le_of_lt (by simp)) (.cells #[.bool false, .slice none 0 0] 28)
  have hb2 := hb1.alloc (Nat.le_of_lt (by simp; omega)) (.cells #[.slice a n c] 26)
  have hbw0 : Below w.heap.size w w0 := by rw [hw0]; exact bdn hb2 1
  have hsz0 : w0.heap.size = w.heap.size + 3 := by rw [hw0]; show (((w.alloc _).alloc _).alloc _).heap.size = _; simp
  have s0 : w0.heap[w.heap.size + 1]? = some (.cells #[.bool false, .slice none 0 0] 28 (0, 0)) := by
    have h := slot_kept (heap_alloc2_new w (.cells #[.bool p, .slice a n c] 28) (.cells #[.bool false, .slice none 0 0] 28)) (below_alloc _ (.cells #[.slice a n c] 26))
    rw [hw0]
    exact h
  have hrow : OwV (w.heap.size + 2) w0 (.slice (some ⟨w.heap.size + 2, 0, none⟩) 1 1) [.slice a n c] := by
    rw [hw0]
    exact ⟨rfl, Or.inr ⟨w.heap.size + 2, 1, #[.slice a n c], rfl, Nat.le_refl _, heap_alloc3_new w _ _ _, Nat.le_refl _, by decide, rfl, rfl⟩⟩
  have hnlz : ((nl : Int) == 0) = false := by simp; omega
  have hnlI : (nl : Int) ≤ 100 := by omega
  have HNL := Lib.hid hnl
  have HEL := Lib.hid hel
  have HRD := Lib.hid hrd
  have HA := Lib.hid hA
  have HS0 := Lib.hid hsz0
  clear hnl hb0 hb1 hb2 hel hrd hA hsz0
  go_enter Tryd.func24, Tryd.ntmps24
  go_wp2_with fail
  go_region
  go_wp2_with fail
  rw [← hw0]
  clear hw0
  go_loopw [5, 6, 24] (fun vn vm ii wr => ∃ k : Nat, k ≤ nl ∧ ii = .int .i64 k ∧ vn = .bool (negf p (els.take k)) ∧ OwV (w.heap.size + 2) wr vm (.slice a n c :: (els.take k).map (·.2.1)) ∧ Below (w.heap.size + 2) w0 wr)
    (fun _ _ ii _ => nl - (intOf ii).toNat)
  case atStart => exact ⟨0, Nat.zero_le _, rfl, rfl, hrow, Below.refl _ _⟩
  case round =>
    obtain ⟨k, hk, rfl, rfl, hO, hbl⟩ := hrel
    have hS0 := HS0.out
    have hbw : Below w.heap.size w wr := hbw0.trans (hbl.mono (by omega))
    have hsr := hbl.size
    by_cases hlt : k < nl
    · have hkE : k < els.length := by rw [← HNL.out]; exact hlt
      obtain ⟨bb, v, M, he⟩ : ∃ b v M, els.getD k (false, undef, 0) = (b, v, M) := ⟨_, _, _, rfl⟩
      have hmem : (bb, v, M) ∈ els := by
        rw [← he, List.getD_eq_getElem?_getD, List.getElem?_eq_getElem hkE]; exact List.getElem_mem hkE
      obtain ⟨ak, nk, ck, hv, hNk⟩ := HEL.out _ hmem
      simp only at hv
      subst hv
      obtain ⟨q0, q1⟩ := cel_get hkE
      rw [he] at q0 q1
      have c0 := HRD.out _ rfl _ _ q0
      have c1 := HRD.out _ rfl _ _ q1
      rw [addr_add_none] at c0 c1
      have d0 : wr.cell? ⟨b, o + k * 2, none⟩ = some (.bool bb) := by rw [hbw.cell (p := ⟨b, o + k * 2, none⟩) (World.block_lt_of_cell? (a := ⟨b, o + k * 2, none⟩) _ c0)]; exact c0
      have d1 : wr.cell? ⟨b, o + k * 2 + 1, none⟩ = some (.slice ak nk ck) := by rw [show o + k * 2 + 1 = o + (k * 2 + 1) by omega, hbw.cell (p := ⟨b, o + (k * 2 + 1), none⟩) (World.block_lt_of_cell? (a := ⟨b, o + (k * 2 + 1), none⟩) _ c1)]; exact c1
      have hns := negf_snoc (p := p) hkE he
      have hms := mags_snoc hkE he
      have hone : ∀ u ∈ [Value.slice ak nk ck], u.oneCell' = true := by intro u hu; rw [List.mem_singleton] at hu; subst hu; rfl
      have hml : ((Value.slice a n c :: (els.take k).map (·.2.1))).length + 1 ≤ 4294967296 := by
        rw [List.length_cons, List.length_map, List.length_take]; omega
      obtain ⟨ng, hng⟩ : ∃ ng, negf p (els.take k) = ng := ⟨_, rfl⟩
      obtain ⟨ng2, hng2⟩ : ∃ ng2, (!(ng == bb)) = ng2 := ⟨_, rfl⟩
      rw [hng] at hns
      have HNS := Lib.hid hns
      have HMS := Lib.hid hms
      have HN2 := Lib.hid hng2
      clear q0 q1 c0 c1 hns hms he hmem hNk
      rw [hng]
      clear hng
      go_wp2_with (at_builtin; refine wpList_append_vals _ rfl (.tmp 32) (.tmp 35) 88 rfl Tryd.underlying88 info_nat (w.heap.size + 2) u6 (.slice a n c :: (els.take k).map (·.2.1)) rfl ((hO.alloc (.cells #[.bool bb, .slice ak nk ck] 28)).alloc _) ⟨wr.heap.size + 1, 0, none⟩ 1 1 [.slice ak nk ck] rfl rfl (newv1_at _ _ _ _ (by simp)) hone hml (by simp; omega) ?_; intro vm2 w2 hOm2 hg2 hat2)
      have hbl' := hbl.alloc (by omega) (.cells #[.bool bb, .slice ak nk ck] 28)
      have hO' := hO.alloc (.cells #[.bool bb, .slice ak nk ck] 28)
      have hb12 : Below (w.heap.size + 2) w0 w2 := below_app hbl' hO' (Nat.le_refl _) (by simp; omega) hg2
      go_roundw
      case rel =>
        refine ⟨k + 1, by omega, by go_num, ?_, by rw [HMS.out]; exact hOm2, hb12⟩
        rw [HNS.out, HN2.out]
      case measure => simp [intOf]; omega
    · have hkN : k = nl := by omega
      subst hkN
      have hall : els.take k = els := List.take_of_length_le (by rw [← HNL.out]; exact Nat.le_refl _)
      rw [hall] at hO ⊢
      have sr : wr.heap[w.heap.size + 1]? = some (.cells #[.bool false, .slice none 0 0] 28 (0, 0)) := by rw [hbl.block _ (by omega)]; exact s0
      have hlen2 : (Value.slice a n c :: els.map (·.2.1)).length = 1 + k := by rw [List.length_cons, List.length_map, ← HNL.out]; omega
      have hnums : Nums wr m (.slice a n c :: els.map (·.2.1)) (A :: els.map (·.2.2)) := by
        refine ⟨by simp, fun j hj => ?_⟩
        cases j with
        | zero => exact ⟨a, n, c, rfl, HA.out.below hbw⟩
        | succ j =>
          have hj2 : j < els.length := by simpa using hj
          obtain ⟨a', n', c', h1, h2⟩ := HEL.out _ (List.getElem_mem hj2)
          refine ⟨a', n', c', ?_, ?_⟩
          · rw [List.getD_cons_succ, List.getD_eq_getElem?_getD, List.getElem?_map, List.getElem?_eq_getElem hj2]
            exact h1
          · rw [List.getD_cons_succ, List.getD_eq_getElem?_getD, List.getElem?_map, List.getElem?_eq_getElem hj2]
            exact h2.below hbw
      obtain ⟨aM, cM, hve, hM1, hM2, hM3⟩ := hO.form
      rw [hlen2] at hve hM1
      subst hve
      have HPR := Lib.hid (product_num (1 + k) aM cM _ _ m wr hlen2 (by omega) (by omega) hM1 hM2 hM3 hnums hm)
      have HZ : Hid (sg (negf p els) (prodl (A :: els.map (·.2.2))) = sg p A * zprod els) := by show _ = _; rw [prodl]; exact negf_prod p A els
      obtain ⟨ng, hng⟩ : ∃ ng, negf p els = ng := ⟨_, rfl⟩
      rw [hng] at HZ ⊢
      clear hng hall hlen2 hnums hM1 hM2 hM3 hO
      go_wp2_with fail
      refine HPR.out.mono ?_
      rintro e w2 ⟨aX, nX, cX, rfl, -, hX, hb2⟩
      have hX2 := hX (by omega)
      have s2 := slot_kept sr hb2
      go_wp2_with fail
      refine (signed_num ng hX2).mono ?_
      rintro e w3 ⟨neg', rfl, hs, hz, hb3⟩
      have s3 := slot_kept s2 hb3
      obtain ⟨k0, k1, f0, f1⟩ := slot2 s3
      have hb4 := hbw.trans (hb2.mono hbw.size)
      replace hb4 := hb4.trans (hb3.mono hb4.size)
      obtain ⟨hend, hN, hfin⟩ := slot_end2 (neg' := neg') s3 hb4 (Nat.le_add_right _ _) (hX2.below hb3) (by omega)
      go_wp2_with fail
      refine bodyPost_ret (results_cell_row rfl _ _ (w.heap.size + 1) 28 _ (0, 0) _ rfl hend Tryd.underlying28 rfl (by kernel_rfl)) rfl ?_
      exact ⟨neg', _, _, _, _, rfl, hN, by rw [hs, HZ.out], hz, hfin⟩
end Go.Proofs.YtfanhllcoaondaaDoor

namespace Go.Proofs.YtfanhllcoaondaaDoor
open Go.RowKit

theorem root_id1 {N H M1 M0 t r q u P : Int} (hN : N = (H * P + M1) * P + M0) (hr : r = H - t * t) (he : 2 * t * q + u = r * P + M1) : N = (t * P + q) * (t * P + q) + (u * P + M0) - q * q := by grind
theorem root_id2 {N R rest Q : Int} (h : N = R * R + rest - Q) : rest + R + (R - 1) - Q = N - (R - 1) * (R - 1) := by grind

/-- The top half's root is not small. -/
theorem root_big {H t p : Int} (hp : 1 ≤ p) (hH : 2 * (p * p) ≤ H) (h : IsRoot H t) : p ≤ t := by
  obtain ⟨h1, h2, h3⟩ := h
  rcases Int.lt_or_le t p with a | a
  · have h4 : (t + 1) * (t + 1) ≤ p * p := Int.mul_le_mul (by omega) (by omega) (by omega) (by omega)
    have h5 : 1 * 1 ≤ p * p := Int.mul_le_mul hp hp (by omega) (by omega)
    omega
  · exact a

/-- The root's upper half, its rest, and the quotient: the root, or one more. -/
theorem root_step {N H M1 M0 t q u P R rest : Int} (hP : 1 ≤ P) (hN : N = (H * P + M1) * P + M0) (h10 : 0 ≤ M1) (h11 : M1 < P) (h00 : 0 ≤ M0) (h01 : M0 < P) (ht : IsRoot H t) (hT : P ≤ 2 * t)
    (hq : q = ((H - t * t) * P + M1) / (2 * t)) (hu : u = ((H - t * t) * P + M1) % (2 * t)) (hR : R = t * P + q) (hrest : rest = u * P + M0) :
    0 ≤ q ∧ 0 ≤ u ∧ q ≤ P ∧ (q * q ≤ rest → IsRoot N R ∧ rest - q * q = N - R * R) ∧ (rest < q * q → 1 ≤ R ∧ IsRoot N (R - 1) ∧ rest + R + (R - 1) - q * q = N - (R - 1) * (R - 1)) := by
  obtain ⟨t0, t1, t2⟩ := ht
  obtain ⟨r, hr⟩ : ∃ r, r = H - t * t := ⟨_, rfl⟩
  rw [← hr] at hq hu
  have hr0 : 0 ≤ r := by omega
  have hr2 : r ≤ 2 * t := by
    have e : (t + 1) * (t + 1) = t * t + 2 * t + 1 := by grind
    omega
  have hrP : 0 ≤ r * P := Int.mul_nonneg hr0 (by omega)
  have hrP2 : r * P ≤ 2 * t * P := Int.mul_le_mul_of_nonneg_right hr2 (by omega)
  have htt : 0 < 2 * t := by omega
  have hq0 : 0 ≤ q := by rw [hq]; exact Int.ediv_nonneg (by omega) (by omega)
  have hu0 : 0 ≤ u := by rw [hu]; exact Int.emod_nonneg _ (by omega)
  have hu1 : u < 2 * t := by rw [hu]; exact Int.emod_lt_of_pos _ htt
  have hqP : q ≤ P := by
    have h1 : q < P + 1 := by
      rw [hq]
      refine Int.ediv_lt_of_lt_mul htt ?_
      have e : (P + 1) * (2 * t) = 2 * t * P + 2 * t := by grind
      omega
    omega
  have he : 2 * t * q + u = r * P + M1 := by rw [hq, hu]; exact Int.mul_ediv_add_emod _ _
  have hid := root_id1 hN hr he
  rw [← hR, ← hrest] at hid
  have hrest0 : 0 ≤ rest := by
    have := Int.mul_nonneg hu0 (show 0 ≤ P by omega)
    omega
  have hrest1 : rest < 2 * t * P := by
    have h1 : (u + 1) * P ≤ 2 * t * P := Int.mul_le_mul_of_nonneg_right (by omega) (by omega)
    have e : (u + 1) * P = u * P + P := by grind
    omega
  have htP : 0 ≤ t * P := Int.mul_nonneg t0 (by omega)
  have e2 : 2 * t * P = 2 * (t * P) := by grind
  have hR0 : 0 ≤ R := by omega
  have hqq : 0 ≤ q * q := Int.mul_nonneg hq0 hq0
  refine ⟨hq0, hu0, hqP, fun h => ⟨⟨hR0, by omega, ?_⟩, by omega⟩, fun h => ?_⟩
  · have e : (R + 1) * (R + 1) = R * R + 2 * R + 1 := by grind
    omega
  · have hq1 : 1 ≤ q := by
      rcases Int.lt_or_le q 1 with a | a
      · have e : q = 0 := by omega
        subst e; omega
      · exact a
    have hPP : q * q ≤ P * P := Int.mul_le_mul hqP hqP hq0 (by omega)
    have hPP2 : P * P ≤ 2 * t * P := Int.mul_le_mul_of_nonneg_right hT (by omega)
    have h3 := root_id2 hid
    refine ⟨by omega, ⟨by omega, by omega, ?_⟩, h3⟩
    have e : (R - 1 + 1) * (R - 1 + 1) = R * R := by grind
    omega

theorem NewN.tight {base : Nat} {w : World} {v : Value} {N : Int} {m k : Nat} (h : NewN base w v N m) (hk : N < B64 ^ k) : NewN base w v N k := by
  obtain ⟨l, h1, h2, h3, h4⟩ := h
  exact h1.newn h2 h3 hk

/-- What nat.Sqrt leaves. -/
def RetSq (w : World) (N : Int) (m : Nat) (e : Ending) (w' : World) : Prop := ∃ R, IsRoot N R ∧ RetN2 w R (N - R * R) m m e w'

theorem sq_le {N R : Int} (h : IsRoot N R) : R ≤ N := by
  obtain ⟨h0, h1, h2⟩ := h
  rcases Int.lt_or_le 0 R with a | a
  · have := Int.mul_le_mul_of_nonneg_left (show 1 ≤ R by omega) h0
    omega
  · have : 0 ≤ R * R := Int.mul_nonneg h0 h0
    omega

theorem two_pow_sum {a b : Nat} : (2 : Int) ^ (a + b) = 2 ^ a * 2 ^ b := Int.pow_add ..

/-- nat.Sub of 1. -/
theorem sub_lit {w : World} {u : Value} {A : Int} {m : Nat} {t : TypeId} (h : Num w u A m) (h1 : 1 ≤ A) (hm : m ≤ 100000) :
    Calls Tryd.prog 93 #[u, .slice (some ⟨w.heap.size, 0, none⟩) 1 1] (w.alloc (.cells #[.int .u64 1] t)) fun e w' => RetSN w (A - 1) m e w' := by
  have hl : Lim B64 [1] := Lim.cons (by decide) (by decide) (Lim.nil _)
  have hn : Num (w.alloc (.cells #[.int .u64 1] t)) (.slice (some ⟨w.heap.size, 0, none⟩) 1 1) 1 1 := ⟨[1], ⟨_, 1, rfl, Nat.le_refl _, by decide, at_new w 1 t, hl⟩, by rw [vb_one], Nat.le_refl _⟩
  refine (sub_num (h.below (below_alloc w _)) hn hm h1).mono ?_
  rintro e w' ⟨a, n, c, rfl, hN, hb⟩
  exact ⟨a, n, c, rfl, hN.base (by simp), (below_alloc w _).trans (hb.mono (by simp))⟩

end Go.Proofs.YtfanhllcoaondaaDoor

namespace Go.Proofs.YtfanhllcoaondaaDoor
open Go.RowKit

/-- 10^19, squared i times. -/
def pw (i : Nat) : Int := 10 ^ (19 * 2 ^ i)
theorem pw_succ (i : Nat) : pw i * pw i = pw (i + 1) := by
  unfold pw
  rw [← Int.pow_add]
  congr 1
  rw [Nat.pow_succ]; omega
theorem pw_pos (i : Nat) : 0 < pw i := Int.pow_pos (by decide)
theorem pw_ge (i : Nat) : (2 : Int) ^ i ≤ pw i := by
  unfold pw
  have h1 : (2 : Int) ^ i ≤ 10 ^ i := by
    induction i with
    | zero => decide
    | succ i ih =>
      rw [Int.pow_succ, Int.pow_succ]
      have : (0:Int) < 2 ^ i := Int.pow_pos (by decide)
      omega
  have h2 : i ≤ 19 * 2 ^ i := by have := Nat.lt_two_pow_self (n := i); omega
  exact Int.le_trans h1 (pow_le_pow (by decide) h2)

/-- A number that lies in memory, in no row that is being grown. -/
def NumX (w : World) (row : Option Nat) (v : Value) (N : Int) (m : Nat) : Prop := Num w v N m ∧ ∀ g, v.ownBlock = some g → row ≠ some g ∧ g < w.heap.size
theorem Num.grown {w w' : World} {row : Option Nat} {v : Value} {N : Int} {m : Nat} (h : Num w v N m) (hg : w.grownBy w' row) (hne : ∀ g, v.ownBlock = some g → row ≠ some g) : Num w' v N m := by
  obtain ⟨l, ⟨a, c, rfl, h1, h2, h3, h4⟩, h5, h6⟩ := h
  exact ⟨l, ⟨a, c, rfl, h1, h2, h3.grown hg (fun _ b o e => hne b (by rw [e]; rfl)), h4⟩, h5, h6⟩
theorem NumX.grown {w w' : World} {row row' : Option Nat} {v : Value} {N : Int} {m : Nat} (h : NumX w row v N m) (hg : w.grownBy w' row) (hr : row' = row ∨ row' = some w.heap.size) : NumX w' row' v N m := by
  obtain ⟨h1, h2⟩ := h
  refine ⟨h1.grown hg (fun g e => (h2 g e).1), fun g e => ⟨?_, ?_⟩⟩
  · have := h2 g e
    rcases hr with rfl | rfl
    · exact this.1
    · intro e2
      simp at e2
      omega
  · have := hg.size; have := (h2 g e).2; omega
theorem NumX.below {w w' : World} {row : Option Nat} {v : Value} {N : Int} {m : Nat} (h : NumX w row v N m) (hb : Below w.heap.size w w') : NumX w' row v N m :=
  ⟨h.1.below hb, fun g e => ⟨(h.2 g e).1, by have := hb.size; have := (h.2 g e).2; omega⟩⟩
theorem NumX.alloc {w : World} {row : Option Nat} {v : Value} {N : Int} {m : Nat} (h : NumX w row v N m) (o : Obj) : NumX (w.alloc o) row v N m := h.below (below_alloc w o)

/-- The powers in a row. -/
def PowX (w : World) (row : Option Nat) (vs : List Value) (m : Nat) : Prop := ∀ j, j < vs.length → NumX w row (vs.getD j undef) (pw j) m
/-- What nat.chunkPowers returns. -/
def RetPow (w : World) (N : Int) (m : Nat) (e : Ending) (w' : World) : Prop :=
  ∃ v vs, e = .returned v ∧ OwV w.heap.size w' v vs ∧ (∀ j, j < vs.length → Num w' (vs.getD j undef) (pw j) m) ∧ N < pw vs.length ∧ (∀ i, i + 1 = vs.length → pw i ≤ N) ∧ Below w.heap.size w w'

theorem getD_snoc {vs : List Value} {v : Value} {j : Nat} : (vs ++ [v]).getD j undef = if j < vs.length then vs.getD j undef else if j = vs.length then v else undef := by
  rw [List.getD_eq_getElem?_getD, List.getElem?_append]
  split
  · rw [List.getD_eq_getElem?_getD]
  · rename_i h
    by_cases h2 : j = vs.length
    · subst h2; simp
    · rw [if_neg h2, List.getElem?_eq_none (by simp; omega)]; rfl

theorem nb_lt_self {N : Int} : N < 2 ^ nb N := by
  rcases Int.lt_or_le 0 N with h | h
  · exact (nb_spec h).2.1
  · have := pow2_pos (nb N); omega
theorem nb_ge {N : Int} {k : Nat} (h : (2 : Int) ^ k ≤ N) : k + 1 ≤ nb N := by
  rcases Nat.lt_or_ge k (nb N) with h1 | h1
  · exact h1
  · have h2 := nb_lt_self (N := N)
    have h3 : (2 : Int) ^ nb N ≤ 2 ^ k := pow_le_pow (by decide) h1
    omega
theorem break_lt {P N : Int} (hP : 0 < P) (h : nb N + 2 ≤ 2 * nb P) : N < P * P := by
  obtain ⟨h1, _, h3⟩ := nb_spec hP
  have h4 : (2 : Int) ^ nb N ≤ 2 ^ ((nb P - 1) + (nb P - 1)) := pow_le_pow (by decide) (by omega)
  rw [Int.pow_add] at h4
  have h5 : (2 : Int) ^ (nb P - 1) * 2 ^ (nb P - 1) ≤ P * P := Int.mul_le_mul h1 h1 (Int.le_of_lt (pow2_pos _)) (by omega)
  have := nb_lt_self (N := N)
  omega

set_option maxRecDepth 100000 in
set_option maxHeartbeats 4000000 in
theorem powers_num {w : World} {u : Value} {N : Int} {m : Nat} (hA : Num w u N m) (hm : m ≤ 1000) (hm0 : 1 ≤ m) :
    Calls Tryd.prog 95 #[u] w fun e w' => RetPow w N (2 * m + 1) e w' := by
  have hN0 := hA.nonneg
  have hlt := hA.lt
  obtain ⟨t, ht⟩ : ∃ t, t = nb N := ⟨_, rfl⟩
  have htm : t ≤ 64 * m := by
    rw [ht]
    refine nb_le ?_
    rw [show (2:Int) ^ (64 * m) = B64 ^ m by rw [Int.pow_mul]; rfl]
    exact hlt
  have HB := Lib.hid (bits_num hA (by omega))
  rw [← ht] at HB
  have HT := Lib.hid ht
  have HLT := Lib.hid hlt
  clear ht hlt
  go_enter Tryd.func95, Tryd.ntmps95
  go_wp2_with fail
  refine HB.out.mono ?_
  rintro e w' ⟨rfl, rfl⟩
  go_wp2_with fail
  refine (of1_num 10000000000000000000 _ w (by decide) (by decide)).mono ?_
  rintro e w1 ⟨a1, n1, c1, rfl, h1, hb1⟩
  go_wp2_with fail
  go_loopw [3, 5] (fun vp vc wr => ∃ (vs : List Value) (aC : Option Addr) (nC cC : Nat), vc = .slice aC nC cC ∧ OwV w1.heap.size wr vp vs ∧ NumX wr vp.ownBlock (.slice aC nC cC) (pw vs.length) (2 * m + 1) ∧ PowX wr vp.ownBlock vs (2 * m + 1) ∧ Below w1.heap.size w1 wr ∧ Hid (vs.length ≤ t) ∧ Hid (∀ i, i + 1 = vs.length → pw i ≤ N))
    (fun vp _ wr => t + 1 - (match vp with | .slice _ n _ => n | _ => 0))
  case atStart =>
    refine ⟨[], a1, n1, c1, rfl, OwV.nil _ _, ⟨h1.num.mono (by omega), fun g e => ⟨by simp [Value.ownBlock], (h1.lt g e).2⟩⟩, fun j hj => by simp at hj, Below.refl _ _, Nat.zero_le _, fun i hi => by simp at hi⟩
  case round =>
    obtain ⟨vs, aC, nC, cC, rfl, hO, hX, hP, hbl, HLEN, HLE⟩ := hrel
    have hAw : Num wr u N m := (hA.below hb1).below hbl
    obtain ⟨a3, cp3, rfl, h31, h32, h33⟩ := hO.form
    clear h31 h32 h33
    have hbw : Below w.heap.size w wr := hb1.trans (hbl.mono hb1.size)
    have hw1 := hb1.size
    have hwr := hbl.size
    rcases Int.lt_or_le N (pw vs.length) with hgt | hle
    · have hc : cmpI (pw vs.length) N = 1 := cmpI_gt hgt
      have HG := Lib.hid hgt
      clear hgt
      go_wp2_with fail
      refine (cmp_num hX.1 hAw).mono ?_
      rintro e w2 ⟨rfl, hb2⟩
      rw [hc]
      go_wp2_with fail
      go_ret
      exact ⟨_, vs, rfl, ⟨(hO.below hb2).1, by
        rcases (hO.below hb2).2 with h | ⟨g, cap, cur, h, hg, r⟩
        · exact Or.inl h
        · exact Or.inr ⟨g, cap, cur, h, by omega, r⟩⟩, fun j hj => (hP j hj).1.below hb2, HG.out, HLE.out, hbw.trans (hb2.mono hbw.size)⟩
    · obtain ⟨c, hc⟩ : ∃ c, c = cmpI (pw vs.length) N := ⟨_, rfl⟩
      have hcl : c ≤ 0 := by
        rw [hc]
        rcases Int.lt_or_eq_of_le hle with h | h
        · rw [cmpI_lt h]; decide
        · rw [cmpI_eq h]; decide
      have hk1 : vs.length + 1 ≤ t := by rw [HT.out]; exact nb_ge (Int.le_trans (pw_ge _) hle)
      have HC := Lib.hid hc
      have HLE2 := Lib.hid hle
      obtain ⟨b, hb⟩ : ∃ b, b = nb (pw vs.length) := ⟨_, rfl⟩
      have hPlt := hX.1.lt
      have hbb : b ≤ 64 * (2 * m + 1) := by
        rw [hb]
        refine nb_le ?_
        rw [show (2:Int) ^ (64 * (2 * m + 1)) = B64 ^ (2 * m + 1) by rw [Int.pow_mul]; rfl]
        exact hPlt
      have HBB := Lib.hid hb
      have hpp : pw (vs.length + 1) < B64 ^ (2 * m + 1) := by
        rw [← pw_succ]
        have h1 : pw vs.length * pw vs.length < B64 ^ m * B64 ^ m := prod_lt (Int.lt_of_le_of_lt hle HLT.out) (Int.lt_of_le_of_lt hle HLT.out) (Int.le_of_lt (pw_pos _)) (Int.le_of_lt (pw_pos _))
        rw [← Int.pow_add] at h1
        exact Int.lt_of_lt_of_le h1 (pow_le_pow B64_pos (by omega))
      have HPP := Lib.hid hpp
      have h1 : ∀ u ∈ [Value.slice aC nC cC], u.oneCell' = true := by intro u hu; rw [List.mem_singleton] at hu; subst hu; rfl
      have hl1 : vs.length + 1 ≤ 4294967296 := by omega
      have hbI : ((b : Nat) : Int) ≤ 128064 := by omega
      clear hc hle hb hPlt hpp
      go_wp2_with fail
      refine (cmp_num hX.1 hAw).mono ?_
      rintro e w2 ⟨rfl, hb2⟩
      rw [← HC.out]
      have hO2 := hO.below hb2
      have hX2 := hX.below hb2
      have hbl2 := hbl.trans (hb2.mono hwr)
      have hs2 := hbl2.size
      go_wp2_with (at_builtin; refine wpList_append_vals _ rfl (.tmp 17) (.tmp 19) 88 rfl Tryd.underlying88 info_nat w1.heap.size (.slice a3 vs.length cp3) vs rfl (hO2.alloc _) ⟨w2.heap.size, 0, none⟩ 1 1 [.slice aC nC cC] rfl rfl (newv1 _ _ _) h1 hl1 (by simp; omega) ?_; intro v2 w3 hO3 hg3 hat3)
      have hrow : v2.ownBlock = (Value.slice a3 vs.length cp3).ownBlock ∨ v2.ownBlock = some (w2.alloc (.cells #[Value.slice aC nC cC] 26)).heap.size := hat3
      have hX3 : NumX w3 v2.ownBlock (.slice aC nC cC) (pw vs.length) (2 * m + 1) := (hX2.alloc _).grown hg3 hrow
      have hP3 : PowX w3 v2.ownBlock (vs ++ [.slice aC nC cC]) (2 * m + 1) := by
        intro j hj
        rw [List.length_append, List.length_singleton] at hj
        rw [getD_snoc]
        by_cases hjv : j < vs.length
        · rw [if_pos hjv]
          exact (((hP j hjv).below hb2).alloc _).grown hg3 hrow
        · obtain rfl : j = vs.length := by omega
          rw [if_neg hjv, if_pos rfl]
          exact hX3
      have hb13 : Below w1.heap.size w1 w3 := below_app hbl2 hO2 (Nat.le_refl _) hs2 hg3
      have hbw3 : Below w.heap.size w w3 := hb1.trans (hb13.mono hb1.size)
      clear hP hX hX2 hg3 hat3 hrow hO hO2
      refine (bits_num hX3.1 (by omega)).mono ?_
      rintro e w' ⟨rfl, rfl⟩
      rw [← HBB.out]
      by_cases hbr : (t : Int) < 2 * (b : Int) - 1
      · go_wp2_with fail
        go_ret
        refine ⟨v2, _, rfl, ⟨hO3.1, ?_⟩, fun j hj => (hP3 j hj).1, ?_, ?_, hbw3⟩
        · rcases hO3.2 with h | ⟨g, cap, cur, h, hg, r⟩
          · exact Or.inl h
          · exact Or.inr ⟨g, cap, cur, h, by omega, r⟩
        · rw [List.length_append, List.length_singleton, ← pw_succ]
          exact break_lt (pw_pos _) (by rw [← HT.out, ← HBB.out]; omega)
        · intro i hi
          rw [List.length_append, List.length_singleton] at hi
          obtain rfl : i = vs.length := by omega
          exact HLE2.out
      · go_wp2_with fail
        refine (mul_num 40 hX3.1 hX3.1 (p := 2 * (2 * m + 1)) (by omega) (by omega) (by decide)).mono ?_
        rintro e w4 ⟨aD, nD, cD, rfl, hD, hb4⟩
        rw [pw_succ] at hD
        have hD2 := hD.tight HPP.out
        have hv2 := fun g e => (hO3.lt g e).2
        obtain ⟨a2, cp2, hv2e, h21, h22, h23⟩ := hO3.form
        rw [List.length_append, List.length_singleton] at hv2e
        subst hv2e
        go_wp2_with fail
        go_roundw
        case rel =>
          refine ⟨vs ++ [.slice aC nC cC], aD, nD, cD, rfl, hO3.below hb4, ?_, fun j hj => (hP3 j hj).below hb4, hb13.trans (hb4.mono hb13.size), ?_, ?_⟩
          · rw [List.length_append, List.length_singleton]
            refine ⟨hD2.num, fun g e => ⟨fun e2 => ?_, (hD.lt g e).2⟩⟩
            have := (hD.lt g e).1
            have := hv2 g e2
            omega
          · show _ ≤ _; rw [List.length_append, List.length_singleton]; exact hk1
          · intro i hi
            rw [List.length_append, List.length_singleton] at hi
            obtain rfl : i = vs.length := by omega
            exact HLE2.out
        case measure =>
          show t + 1 - (vs.length + 1) < t + 1 - vs.length
          omega
end Go.Proofs.YtfanhllcoaondaaDoor

namespace Go.Proofs.YtfanhllcoaondaaDoor
open Go.RowKit

/-- A number that lies outside block g. -/
def NumG (w : World) (g : Nat) (v : Value) (N : Int) (m : Nat) : Prop := Num w v N m ∧ ∀ b o n c, v = .slice (some ⟨b, o, none⟩) n c → n ≠ 0 → b ≠ g
theorem NumG.only {w w' : World} {g lo hi : Nat} {v : Value} {N : Int} {m : Nat} (h : NumG w g v N m) (ho : Only g lo hi w w') : NumG w' g v N m := by
  obtain ⟨⟨l, ⟨a, c, rfl, h1, h2, h3, h4⟩, h5, h6⟩, hne⟩ := h
  refine ⟨⟨l, ⟨a, c, rfl, h1, h2, ?_, h4⟩, h5, h6⟩, hne⟩
  rcases h3 with rfl | ⟨b, off, rfl, hat⟩
  · exact Rd.nil _ _
  · by_cases hl : l = []
    · subst hl; exact Rd.nil _ _
    · exact Rd.of_at (ho.at' hat (hne b off _ c rfl (by simpa using hl)))
theorem NumG.below {w w' : World} {g : Nat} {v : Value} {N : Int} {m : Nat} (h : NumG w g v N m) (hb : Below w.heap.size w w') : NumG w' g v N m := ⟨h.1.below hb, h.2⟩
theorem RdRow.only {w w' : World} {g lo hi : Nat} {ao : Option Addr} {vs : List Value} (h : RdRow w ao vs) (ho : Only g lo hi w w') (hne : ∀ b o, ao = some ⟨b, o, none⟩ → b ≠ g) : RdRow w' ao vs := by
  rcases h with rfl | ⟨b, off, rfl, h⟩
  · exact Or.inl rfl
  · refine Or.inr ⟨b, off, rfl, fun j v hv => ?_⟩
    have hc := h j v hv
    have hlt := World.block_lt_of_cell? (a := ⟨b, off + j, none⟩) _ hc
    rw [World.cell?_of_block (w := w) (ho.block b hlt (hne b off rfl))]
    exact hc
theorem RdRow.take {w : World} {ao : Option Addr} {vs : List Value} (h : RdRow w ao vs) (k : Nat) : RdRow w ao (vs.take k) := by
  rcases h with rfl | ⟨b, off, rfl, h⟩
  · exact Or.inl (by simp)
  · refine Or.inr ⟨b, off, rfl, fun j v hv => h j v ?_⟩
    rw [List.getElem?_take] at hv
    split at hv
    · exact hv
    · cases hv

theorem dg_half (h : Nat) (N : Int) : dg (h + h) N = dg h (N / 10 ^ h) ++ dg h (N % 10 ^ h) := by
  rw [dg_add, dg_mod h h N (Nat.le_refl _)]

theorem ArrB.only {b lo hi : Nat} {u v : World} {off : Nat} {l : List Int} (ha : ArrB u b off l) (h : Only b lo hi u v) (hd : off + l.length ≤ lo ∨ hi ≤ off) : ArrB v b off l := by
  obtain ⟨cur, e, hc, hl⟩ := ha
  obtain ⟨c, a, _, g⟩ := h.row cur e hc
  exact ⟨c, e, a, fun j hj => (g _ (by omega)).trans (hl j hj)⟩
theorem ArrB.join {w : World} {b off : Nat} {l m : List Int} (h : ArrB w b off l) (k : ArrB w b (off + l.length) m) : ArrB w b off (l ++ m) := by
  obtain ⟨cur, e, hc, hl⟩ := h
  obtain ⟨cur2, e2, hc2, hl2⟩ := k
  rw [hc] at hc2
  simp only [Option.some.injEq, Obj.cells.injEq] at hc2
  obtain ⟨rfl, rfl, _⟩ := hc2
  refine ⟨cur, e, hc, fun j hj => ?_⟩
  rw [List.length_append] at hj
  by_cases hjl : j < l.length
  · rw [hl j hjl, List.getD_eq_getElem?_getD, List.getD_eq_getElem?_getD, List.getElem?_append_left hjl]
  · have := hl2 (j - l.length) (by omega)
    rw [show off + l.length + (j - l.length) = off + j by omega] at this
    rw [this, List.getD_eq_getElem?_getD, List.getD_eq_getElem?_getD, List.getElem?_append_right (by omega)]

set_option maxRecDepth 100000 in
set_option maxHeartbeats 2000000 in
theorem writeDigits_base (p g off n cap : Nat) (D : List Int) (au : Option Addr) (nu cu : Nat) (N : Int) (m : Nat) (ap : Option Addr) (cp : Nat) (w : World) (hn : n = 19 * 2 ^ p) (hD : D.length = n) (h1 : n ≤ cap) (h2 : cap ≤ 9223372036854775807)
    (hd : ArrB w g off D) (hu : Num w (.slice au nu cu) N m) (hm : m ≤ 150) (hp : p ≤ 60) (hbase : p = 0 ∨ nu < 30) :
    Calls Tryd.prog 96 #[.slice (some ⟨g, off, none⟩) n cap, .slice au nu cu, .slice ap p cp] w fun e w' => RetWD g off n N w e w' := by
  obtain ⟨l, ⟨a, c, he, k1, k2, k3, k4⟩, rfl, k6⟩ := hu
  simp only [Value.slice.injEq] at he
  obtain ⟨rfl, hnu, rfl⟩ := he
  have hglt := hd.lt
  have HOF := Lib.hid (of_any au nu cu l w hnu (by omega) k2 k3 (by unfold MaxW; omega))
  have HNN := Lib.hid hn
  have HD := Lib.hid hD
  have HWC := fun w1 v1 (hb1 : Below w.heap.size w w1) (hO1 : Ow w.heap.size w1 v1 (tr l)) => writeChunks_any g off n cap (2 ^ p) D v1 (tr l) w.heap.size w1 HNN.out HD.out h1 h2 (hd.below hb1 hglt) hO1 (k4.take _) hglt hb1.size
  have hpI : (p : Int) ≤ 60 := by omega
  clear hn hD k3 k1 k2 k6 hd hnu
  rcases hbase with rfl | hbase
  · go_enter Tryd.func96, Tryd.ntmps96
    go_wp2_with fail
    refine HOF.out.mono ?_
    rintro e w1 ⟨v1, rfl, hO1, hb1⟩
    go_wp2_with fail
    refine (HWC w1 v1 hb1 hO1).mono ?_
    rintro e w2 ⟨rfl, harr, honly⟩
    go_wp2_with fail
    go_end0
    rw [vb_tr] at harr
    exact ⟨rfl, harr, ((OnlyB.of_below hb1 hglt).trans honly).only⟩
  · by_cases hp0 : p = 0
    · subst hp0
      go_enter Tryd.func96, Tryd.ntmps96
      go_wp2_with fail
      refine HOF.out.mono ?_
      rintro e w1 ⟨v1, rfl, hO1, hb1⟩
      go_wp2_with fail
      refine (HWC w1 v1 hb1 hO1).mono ?_
      rintro e w2 ⟨rfl, harr, honly⟩
      go_wp2_with fail
      go_end0
      rw [vb_tr] at harr
      exact ⟨rfl, harr, ((OnlyB.of_below hb1 hglt).trans honly).only⟩
    · have hp1 : ¬ (p : Int) - 1 < 0 := by omega
      have hnI : (nu : Int) < 30 := by omega
      go_enter Tryd.func96, Tryd.ntmps96
      go_wp2_with fail
      refine HOF.out.mono ?_
      rintro e w1 ⟨v1, rfl, hO1, hb1⟩
      go_wp2_with fail
      refine (HWC w1 v1 hb1 hO1).mono ?_
      rintro e w2 ⟨rfl, harr, honly⟩
      go_wp2_with fail
      go_end0
      rw [vb_tr] at harr
      exact ⟨rfl, harr, ((OnlyB.of_below hb1 hglt).trans honly).only⟩

set_option maxRecDepth 100000 in
set_option maxHeartbeats 4000000 in
theorem writeDigits_num : ∀ (p g off n cap : Nat) (D : List Int) (au : Option Addr) (nu cu : Nat) (N : Int) (m : Nat) (ap : Option Addr) (cp : Nat) (vs : List Value) (K : Nat) (w : World), n = 19 * 2 ^ p → D.length = n → n ≤ cap → cap ≤ 9223372036854775807 →
    ArrB w g off D → Num w (.slice au nu cu) N m → m ≤ 150 → vs.length = p → p ≤ 60 → p ≤ cp → cp ≤ 9223372036854775807 → RdRow w ap vs → (∀ b o, ap = some ⟨b, o, none⟩ → b ≠ g) → (∀ j, j < p → NumG w g (vs.getD j undef) (pw j) K) → K ≤ 1000 →
    Calls Tryd.prog 96 #[.slice (some ⟨g, off, none⟩) n cap, .slice au nu cu, .slice ap p cp] w fun e w' => RetWD g off n N w e w' := by
  intro p
  induction p with
  | zero =>
    intro g off n cap D au nu cu N m ap cp vs K w hn hD h1 h2 hd hu hm hvs hp hcp hcp2 hrow hne hels hK
    exact writeDigits_base 0 g off n cap D au nu cu N m ap cp w hn hD h1 h2 hd hu hm hp (Or.inl rfl)
  | succ q ih =>
    intro g off n cap D au nu cu N m ap cp vs K w hn hD h1 h2 hd hu hm hvs hp hcp hcp2 hrow hne hels hK
    by_cases h30 : nu < 30
    · exact writeDigits_base (q + 1) g off n cap D au nu cu N m ap cp w hn hD h1 h2 hd hu hm hp (Or.inr h30)
    · obtain ⟨P, hP⟩ : ∃ P, q + 1 = P := ⟨_, rfl⟩
      obtain ⟨h, hh⟩ : ∃ h, h = 19 * 2 ^ q := ⟨_, rfl⟩
      have hnh : n = h + h := by rw [hn, hh, Nat.pow_succ]; omega
      have hh0 : 0 < h := by rw [hh]; have := Nat.two_pow_pos q; omega
      have hPI : (P : Int) - 1 = (q : Int) := by omega
      have hq0 : ¬ (q : Int) < 0 := by omega
      have hnuI : ¬ (nu : Int) < 30 := by omega
      have hqP : q < P := by omega
      have hqcp : q ≤ cp := by omega
      have htd : ((n : Int)).tdiv 2 = (h : Int) := by rw [Int.tdiv_eq_ediv_of_nonneg (by omega)]; omega
      have hhn : h ≤ n := by omega
      have hhc : h < cap := by omega
      have hhcap : h ≤ cap := by omega
      have hcne : ¬ cap = h := by omega
      have hnh2 : n - h = h := by omega
      have hv0 : vs ≠ [] := by intro e; subst e; simp at hvs
      obtain ⟨b, o, rfl, hcells⟩ := hrow.resolve_left hv0
      have hbne := hne b o rfl
      have hel := hels q (by omega)
      obtain ⟨ae, ne, ce, le, hve, -⟩ := hel.1.open
      have hcell : w.cell? ⟨b, o + q, none⟩ = some (.slice ae ne ce) := by
        rw [← hve]
        refine hcells q _ ?_
        rw [List.getD_eq_getElem?_getD, List.getElem?_eq_getElem (by omega)]; rfl
      have hele := hel.1
      rw [hve] at hele
      have hpwq : pw q = 10 ^ h := by rw [hh]; rfl
      have hpw0 : pw q ≠ 0 := by have := pw_pos q; omega
      have hglt := hd.lt
      have hrowq := (show RdRow w (some ⟨b, o, none⟩) vs from Or.inr ⟨b, o, rfl, hcells⟩).take q
      have hlq : (vs.take q).length = q := by rw [List.length_take]; omega
      have helq : ∀ j, j < q → NumG w g ((vs.take q).getD j undef) (pw j) K := by
        intro j hj
        have := hels j (by omega)
        rw [List.getD_eq_getElem?_getD, List.getElem?_take, if_pos hj, ← List.getD_eq_getElem?_getD]
        exact this
      have hneq : ∀ b' o', (some ⟨b, o, none⟩ : Option Addr) = some ⟨b', o', none⟩ → b' ≠ g := fun b' o' e => by cases e; exact hbne
      have hN0 := hu.nonneg
      have hNlt := hu.lt
      have HDM := Lib.hid (dm_num hu hele hm (by omega) hpw0)
      have HN := Lib.hid hnh
      have HH := Lib.hid hh
      have HD := Lib.hid hD
      have HPW := Lib.hid hpwq
      have HIH := Lib.hid ih
      have HLQ := Lib.hid hlq
      clear hn hnh hh hD hvs hu hrow hels hv0 hve hel hele hpwq ih hlq hcells hne
      rw [hP]
      clear hP
      go_enter Tryd.func96, Tryd.ntmps96
      go_wp2_with fail
      refine HDM.out.mono ?_
      rintro e w1 ⟨aQ, nQ, cQ, aR, nR, cR, rfl, hQ, hR, hdis, hb1⟩
      have hd1 := hd.below hb1 hglt
      have hQm := hQ.len.2
      have hRm := hR.len.2
      have bd := bdn (Below.refl w1.heap.size w1) 1
      have hglt1 : g < w1.heap.size := hd1.lt
      have hT : ArrB w1.drew g off (D.take h) := (hd1.take h).below bd hglt1
      have hrow1 := (hrowq.below hb1).below bd
      have hel1 : ∀ j, j < q → NumG w1.drew g ((vs.take q).getD j undef) (pw j) K := fun j hj => ((helq j hj).below hb1).below bd
      have HI1 := Lib.hid (HIH.out g off h cap (D.take h) aQ nQ cQ (N / pw q) m (some ⟨b, o, none⟩) cp (vs.take q) K w1.drew HH.out (by rw [List.length_take, HD.out]; omega) hhcap h2 hT (hQ.num.below bd) hm HLQ.out (by omega) hqcp hcp2 hrow1 hneq hel1 hK)
      have hDd : ArrB w1.drew g (off + h) (D.drop h) := (hd1.drop h).below bd hglt1
      have hR1 := (hR.tight (k := m) (by have h3 := Int.mul_ediv_add_emod N (pw q); have h4 := Int.mul_nonneg (Int.le_of_lt (pw_pos q)) (Int.ediv_nonneg hN0 (Int.le_of_lt (pw_pos q))); omega)).below bd
      have hglt2 : g < w.heap.size := hglt
      clear hT hd1 hd hrowq helq hQ hR HDM
      go_wp2_with fail
      go_region_with (go_at_call 96; refine HI1.out.mono ?_; rintro e w2 ⟨rfl, harr2, hon2⟩)
      have bd2 := bdn (Below.refl w2.heap.size w2) 1
      have hD2 : ArrB w2.drew g (off + h) (D.drop h) := (hDd.only hon2 (Or.inr (Nat.le_refl _))).below bd2 (by have := hon2.size; have e1 : w1.drew.heap.size = w1.heap.size := rfl; omega)
      have hR2 : NewN w.heap.size w2.drew (.slice aR nR cR) (N % pw q) m := (hR1.only hon2 hglt2).below bd2
      have HI2 := Lib.hid (HIH.out g (off + h) h (cap - h) (D.drop h) aR nR cR (N % pw q) m (some ⟨b, o, none⟩) cp (vs.take q) K w2.drew HH.out (by rw [List.length_drop, HD.out]; omega) (by omega) (by omega) hD2 hR2.num hm HLQ.out (by omega) hqcp hcp2 ((hrow1.only hon2 hneq).below bd2) hneq (fun j hj => ((hel1 j hj).only hon2).below bd2) hK)
      have hfirst : ArrB w2.drew g off (dg h (N / pw q)) := harr2.below bd2 harr2.lt
      have hon12 : Only g off (off + n) w w2.drew := ((Only.of_below (hb1.trans (bd.mono hb1.size))).trans (hon2.mono (Nat.le_refl _) (by omega))).trans (Only.of_below bd2)
      clear hD2 hR2 hrow1 hel1 hDd hR1
      go_wp2_with fail
      go_region_with (go_at_call 96; refine HI2.out.mono ?_; rintro e w3 ⟨rfl, harr3, hon3⟩)
      go_wp2_with fail
      go_end0
      have hj := (hfirst.only hon3 (Or.inl (by rw [dg_length]; exact Nat.le_refl _))).join (by rw [dg_length]; exact harr3)
      rw [HPW.out, ← dg_half, ← HN.out] at hj
      exact ⟨rfl, hj, hon12.trans (hon3.mono (by omega) (by omega))⟩
end Go.Proofs.YtfanhllcoaondaaDoor

namespace Go.Proofs.YtfanhllcoaondaaDoor
open Go.RowKit

theorem dg_zero (k : Nat) : dg k 0 = List.replicate k 48 := by
  induction k with
  | zero => rfl
  | succ k ih =>
    rw [dg, show (0 : Int) / 10 = 0 by decide, ih, List.replicate_succ']
    rfl
theorem lead_rep (k : Nat) (l : List Int) : lead (List.replicate k 48 ++ l) = k + lead l := by
  induction k with
  | zero => simp
  | succ k ih =>
    rw [List.replicate_succ, List.cons_append]
    simp only [lead, if_true, ih]
    omega
theorem dg_more (k n : Nat) {N : Int} (h0 : 0 ≤ N) (hN : N < 10 ^ n) : dg (k + n) N = List.replicate k 48 ++ dg n N := by
  rw [dg_add, Int.ediv_eq_zero_of_lt h0 hN, dg_zero]
theorem txt_more (k n : Nat) {N : Int} (h0 : 0 ≤ N) (hN : N < 10 ^ n) : txt (k + n) N = txt n N := by
  unfold txt
  rw [dg_more k n h0 hN, lead_rep]
  by_cases h : lead (dg n N) = n
  · rw [if_pos (by omega), if_pos h]
  · rw [if_neg (by omega), if_neg h, List.drop_append]
    simp
/-- The decimal digits of a number. -/
def dec (N : Int) : List Int := txt (N.toNat + 1) N
theorem lt_ten (N : Int) : N < 10 ^ (N.toNat + 1) := by
  have h1 : N.toNat + 1 < 10 ^ (N.toNat + 1) := Nat.lt_pow_self (by decide)
  have h2 : ((N.toNat + 1 : Nat) : Int) < ((10 ^ (N.toNat + 1) : Nat) : Int) := by exact_mod_cast h1
  rw [Int.natCast_pow] at h2
  have h3 : ((10 : Nat) : Int) ^ (N.toNat + 1) = (10 : Int) ^ (N.toNat + 1) := rfl
  omega
theorem txt_dec {n : Nat} {N : Int} (h0 : 0 ≤ N) (hN : N < 10 ^ n) : txt n N = dec N := by
  have h := lt_ten N
  unfold dec
  rcases Nat.le_total n (N.toNat + 1) with a | a
  · obtain ⟨k, hk⟩ := Nat.le.dest a
    rw [← hk, Nat.add_comm n k, txt_more k n h0 hN]
  · obtain ⟨k, hk⟩ := Nat.le.dest a
    rw [← hk, Nat.add_comm (N.toNat + 1) k, txt_more k _ h0 h]

theorem numg_fresh {w : World} {g : Nat} {v : Value} {N : Int} {m : Nat} (h : Num w v N m) (hg : w.heap.size ≤ g) : NumG w g v N m := by
  refine ⟨h, fun b o n c e hn => ?_⟩
  obtain ⟨l, ⟨a, c', he, h1, h2, h3, h4⟩, h5, h6⟩ := h
  rw [e] at he
  simp only [Value.slice.injEq] at he
  obtain ⟨rfl, rfl, rfl⟩ := he
  rcases h3 with rfl | ⟨b', o', e', hat⟩
  · simp at hn
  · cases e'
    have := hat.lt (by intro e; subst e; simp at hn)
    omega

theorem pw_mono {i j : Nat} (h : i ≤ j) : pw i ≤ pw j := by
  unfold pw
  refine pow_le_pow (by decide) ?_
  exact Nat.mul_le_mul_left _ (Nat.pow_le_pow_right (by decide) h)
theorem pw_small {i : Nat} {N : Int} {m : Nat} (h : pw i ≤ N) (hN : N < B64 ^ m) (hm : m ≤ 150) : i ≤ 8 := by
  rcases Nat.lt_or_ge i 9 with a | a
  · omega
  · have h1 := pw_mono a
    have h2 := pow_le_pow B64_pos hm
    have h3 : B64 ^ 150 ≤ pw 9 := by decide +kernel
    omega

set_option maxRecDepth 100000 in
set_option maxHeartbeats 2000000 in
theorem text_any {w : World} {u : Value} {N : Int} {m : Nat} (hu : Num w u N m) (hm : m ≤ 150) (hm1 : 1 ≤ m) :
    Calls Tryd.prog 66 #[u] w fun e w' => RetV w (.string (strOfNums (dec N))) e w' := by
  obtain ⟨au, nu, cu, lu, rfl, -⟩ := hu.open
  have hN0 := hu.nonneg
  have hNlt := hu.lt
  have HPW := Lib.hid (powers_num hu (by omega) hm1)
  have HLT := Lib.hid hNlt
  go_enter Tryd.func66, Tryd.ntmps66
  go_wp2_with fail
  refine HPW.out.mono ?_
  rintro e w1 ⟨v, vs, rfl, hO, hels, hNp, hle, hb1⟩
  obtain ⟨ap, cp, rfl, hp1, hp2, hrow⟩ := hO.form
  have hp9 : vs.length ≤ 9 := by
    rcases Nat.eq_zero_or_pos vs.length with h | h
    · omega
    · have := pw_small (hle (vs.length - 1) (by omega)) HLT.out hm
      omega
  have hap : ∀ b o, ap = some ⟨b, o, none⟩ → b ≠ w1.heap.size := by
    intro b o e
    have := hO.lt b (by rw [e]; rfl)
    omega
  obtain ⟨p, hp⟩ : ∃ p, p = vs.length := ⟨_, rfl⟩
  rw [← hp] at hp1 hp9 hNp ⊢
  obtain ⟨n, hn⟩ : ∃ n, n = 19 * 2 ^ p := ⟨_, rfl⟩
  have hn2 : n ≤ 19 * 2 ^ 9 := by rw [hn]; exact Nat.mul_le_mul_left _ (Nat.pow_le_pow_right (by decide) hp9)
  have hn0 : 0 < n := by rw [hn]; have := Nat.two_pow_pos p; omega
  have hnI : (19 : Int) * 2 ^ p = (n : Int) := by rw [hn]; push_cast; rfl
  have hwr : IntKind.i64.wrap (n : Int) = (n : Int) := by rw [IntKind.wrap_i64]; omega
  have hpI : (p : Int) ≤ 9 := by omega
  have hnb : n ≤ 9728 := by omega
  have hpw : pw p = 10 ^ n := by rw [hn]; rfl
  rw [hpw] at hNp
  have HN := Lib.hid hn
  have HP := Lib.hid hp
  have htx := txt_dec hN0 hNp
  have HTX := Lib.hid htx
  clear hn hp hn2 hNp hpw hle htx
  have HWD := fun w2 (hb2 : Below w1.heap.size w1 w2) (hA2 : ArrB w2 w1.heap.size 0 (List.replicate n 0)) => writeDigits_num p w1.heap.size 0 n n (List.replicate n 0) au nu cu N m ap cp vs (2 * m + 1) w2 HN.out (by simp) (Nat.le_refl _) (by omega) hA2 ((hu.below hb1).below hb2) hm HP.out.symm (by omega) hp1 hp2 (hrow.below hb2) hap (fun j hj => (numg_fresh (hels j (by rw [← HP.out]; exact hj)) (Nat.le_refl _)).below hb2) (by omega)
  go_wp2_with (at_make; refine wpList_make_bytes _ rfl (.tmp 9) (.tmp 9) 93 rfl Tryd.underlying93 info_u8 _ _ n rfl rfl (by rfl) (by rfl) (by unfold MaxW; omega) ?_; intro w2 hA2 hb2 hs2)
  refine (HWD _ (by assumption) (by assumption)).mono ?_
  rintro e w3 ⟨rfl, harr, honly⟩
  have hbB := hb1.trans ((by assumption : Below w1.heap.size w1 w2).mono hb1.size)
  have hbC : Below w.heap.size w w3 := hbB.trans (honly.below hb1.size hbB.size)
  go_wp2_with fail
  refine (trimLeft_any w1.heap.size 0 n n (dg n N) w3 (dg_length _ _).symm (Nat.le_refl _) (by omega) harr.at' hn0).mono ?_
  rintro e w' ⟨rfl, h | h⟩
  · obtain ⟨hld, rfl⟩ := h
    have htx : strOfNums (txt n N) = ⟨#[48]⟩ := by rw [txt, if_pos hld]; rfl
    have HTX2 := Lib.hid htx
    clear htx hld
    go_wp2_with fail
    go_ret
    exact ⟨by rw [← HTX.out, HTX2.out]; rfl, hbC⟩
  · obtain ⟨hld, rfl⟩ := h
    obtain ⟨k, hk⟩ : ∃ k, k = lead (dg n N) := ⟨_, rfl⟩
    obtain ⟨bs, hbs⟩ : ∃ bs, bs = txt n N := ⟨_, rfl⟩
    have htx : bs = (dg n N).drop k := by rw [hbs, txt, if_neg (by omega), hk]
    rw [← hk] at hld ⊢
    have HBS := Lib.hid hbs
    have hlen : bs.length = n - k := by rw [htx, List.length_drop, dg_length]
    have hcells := (harr.drop k).at'
    rw [← htx] at hcells
    have hconv := fun dst hd => run_convert_bytes_arg (P := Tryd.prog) w3 93 5 Tryd.underlying93 Tryd.underlying5 w1.heap.size (0 + k) (n - k) (n - k) bs hlen (fun i hi => hcells i (by rw [hlen]; exact hi)) dst hd
    have hc9 := hconv 9 Tryd.underlying9
    have hne : (((n - k : Nat) : Int) == 0) = false := by simp; omega
    rw [Nat.zero_add] at hc9 ⊢
    clear htx hbs hk hlen hcells hconv harr
    go_wp2_with fail
    go_ret
    exact ⟨by rw [← HTX.out, ← HBS.out]; rfl, hbC⟩

/-! ### The number of a decimal text -/

theorem byte_num {d : Int} (h : 48 ≤ d ∧ d ≤ 57) : (((UInt8.ofNat d.toNat).toNat : Nat) : Int) = d := by
  have h1 : d.toNat < 256 := by omega
  have h2 : (UInt8.ofNat d.toNat).toNat = d.toNat := by simp [Nat.mod_eq_of_lt h1]
  omega
def bytesOf (l : List Int) : List UInt8 := l.map fun n => UInt8.ofNat n.toNat
theorem dval_dg (n : Nat) {N : Int} (h0 : 0 ≤ N) (hN : N < 10 ^ n) : dval (bytesOf (dg n N)) = N := by
  induction n generalizing N with
  | zero => simp [dg, bytesOf, dval]; rw [Int.pow_zero] at hN; omega
  | succ n ih =>
    have h1 : dval (bytesOf (dg n (N / 10))) = N / 10 := ih (Int.ediv_nonneg h0 (by decide)) (by
      refine Int.ediv_lt_of_lt_mul (by decide) ?_
      rw [Int.pow_succ] at hN; exact hN)
    have h2 := byte_num (d := 48 + N % 10) (by omega)
    rw [dg, bytesOf, List.map_append, List.map_cons, List.map_nil, dval_snoc]
    rw [bytesOf] at h1
    rw [h1, h2]
    omega
theorem allD_dg (n : Nat) (N : Int) : allD (bytesOf (dg n N)) = true := by
  unfold allD bytesOf
  rw [List.all_eq_true]
  intro c hc
  obtain ⟨d, hd, rfl⟩ := List.mem_map.1 hc
  have h1 := dg_lim n N d hd
  have h2 := byte_num h1
  exact dokB_yes _ (by omega) (by omega)
theorem dval_zeros (k : Nat) (l : List UInt8) : dval (List.replicate k 48 ++ l) = dval l := by
  rw [dval_app]
  have e : dval (List.replicate k 48) = 0 := by
    induction k with
    | zero => rfl
    | succ k ih => rw [List.replicate_succ', dval_snoc, ih]; decide
  rw [e]; simp
theorem lead_split (l : List Int) : l = List.replicate (lead l) 48 ++ l.drop (lead l) := by
  induction l with
  | nil => rfl
  | cons x l ih =>
    by_cases h : x = 48
    · subst h
      simp only [lead, if_true, List.replicate_succ, List.drop_succ_cons, List.cons_append]
      rw [← ih]
    · simp [lead, h]
theorem txt_spec (n : Nat) {N : Int} (h0 : 0 ≤ N) (hN : N < 10 ^ n) : dval (bytesOf (txt n N)) = N ∧ allD (bytesOf (txt n N)) = true ∧ 0 < (txt n N).length ∧ (txt n N).length ≤ n + 1 := by
  have h1 := dval_dg n h0 hN
  have h2 := allD_dg n N
  have h3 := lead_le (dg n N)
  rw [dg_length] at h3
  rw [lead_split (dg n N)] at h1 h2
  have e : bytesOf (List.replicate (lead (dg n N)) 48 ++ (dg n N).drop (lead (dg n N))) = List.replicate (lead (dg n N)) 48 ++ bytesOf ((dg n N).drop (lead (dg n N))) := by
    unfold bytesOf
    rw [List.map_append, List.map_replicate]
    rfl
  rw [e, dval_zeros] at h1
  rw [e, allD_app, Bool.and_eq_true] at h2
  unfold txt
  by_cases hl : lead (dg n N) = n
  · rw [if_pos hl]
    rw [hl, List.drop_of_length_le (by rw [dg_length]; exact Nat.le_refl _)] at h1
    have : N = 0 := by rw [← h1]; rfl
    subst this
    exact ⟨by decide, by decide, by decide, by simp⟩
  · rw [if_neg hl]
    refine ⟨h1, h2.2, ?_, ?_⟩ <;> rw [List.length_drop, dg_length] <;> omega
theorem dec_bytes (N : Int) : (strOfNums (dec N)).data.toList = bytesOf (dec N) := rfl
theorem dec_size (N : Int) : (strOfNums (dec N)).size = (dec N).length := by
  show ((dec N).map fun n => UInt8.ofNat n.toNat).toArray.size = _
  rw [List.size_toArray, List.length_map]
theorem dec_spec {N : Int} (h0 : 0 ≤ N) : dval (bytesOf (dec N)) = N ∧ allD (bytesOf (dec N)) = true ∧ 0 < (dec N).length := by
  have := txt_spec (N.toNat + 1) h0 (lt_ten N)
  exact ⟨this.1, this.2.1, this.2.2.1⟩
theorem dec_len {N : Int} {n : Nat} (h0 : 0 ≤ N) (hN : N < 10 ^ n) : (dec N).length ≤ n + 1 := by
  rw [← txt_dec h0 hN]
  exact (txt_spec n h0 hN).2.2.2
end Go.Proofs.YtfanhllcoaondaaDoor

namespace Go.Proofs.YtfanhllcoaondaaDoor
open Go.RowKit

theorem str_append (l m : List Int) : strOfNums l ++ strOfNums m = strOfNums (l ++ m) := by
  apply ByteArray.ext
  rw [ByteArray.data_append]
  apply Array.toList_inj.1
  rw [Array.toList_append, strOfNums_data, strOfNums_data, strOfNums_data, List.map_append]
theorem str_one (c : Int) : strOfNums [c] = ⟨#[UInt8.ofNat c.toNat]⟩ := rfl
theorem str_size (l : List Int) : (strOfNums l).size = l.length := by
  show (l.map fun n : Int => UInt8.ofNat n.toNat).toArray.size = _
  rw [List.size_toArray, List.length_map]

/-- No zero ahead where the top digit is none. -/
theorem lead_top {n : Nat} {N : Int} (h1 : 10 ^ n ≤ N) (h2 : N < 10 ^ (n + 1)) : lead (dg (n + 1) N) = 0 := by
  have hp : (0 : Int) < 10 ^ n := Int.pow_pos (by decide)
  have h3 : 1 ≤ N / 10 ^ n := Int.le_ediv_of_mul_le hp (by omega)
  have h4 : N / 10 ^ n < 10 := Int.ediv_lt_of_lt_mul hp (by rw [Int.pow_succ, Int.mul_comm] at h2; exact h2)
  rw [dg_cons, Int.emod_eq_of_lt (by omega) h4]
  simp only [lead]
  rw [if_neg (by omega)]
theorem dec_top {n : Nat} {N : Int} (h1 : 10 ^ n ≤ N) (h2 : N < 10 ^ (n + 1)) : dec N = dg (n + 1) N := by
  have hp : (0 : Int) < 10 ^ n := Int.pow_pos (by decide)
  rw [← txt_dec (by omega) h2, txt, if_neg (by rw [lead_top h1 h2]; omega), lead_top h1 h2]
  rfl
theorem dec_zero : strOfNums (dec 0) = ⟨#[48]⟩ := by decide +kernel

/-- What the text so far is: the lowest digits, or all of them. -/
def TxtAt (N M : Int) (S : ByteArray) : Prop := (∃ j : Nat, M = N / 10 ^ (9 * j) ∧ S = strOfNums (dg (9 * j) N) ∧ (0 < M ∨ j = 0)) ∨ (M = 0 ∧ S = strOfNums (dec N) ∧ 0 < N)
theorem txt_go {N M v0 : Int} {j : Nat} (hM : M = N / 10 ^ (9 * j)) (hv : v0 = M % 1000000000) : strOfNums (dg 9 v0) ++ strOfNums (dg (9 * j) N) = strOfNums (dg (9 * (j + 1)) N) := by
  have e := dg_add 9 (9 * j) N
  rw [show 9 + 9 * j = 9 * (j + 1) by omega] at e
  have e2 : dg 9 (M % 10 ^ 9) = dg 9 M := dg_mod 9 9 M (Nat.le_refl _)
  rw [str_append, e, ← hM, ← e2, hv]
  rfl
theorem txt_end {N M v0 : Int} {j k : Nat} (hM : M = N / 10 ^ (9 * j)) (hv : v0 = M) (hk : 0 < k) (h1 : 0 < v0 / 10 ^ (k - 1)) (h2 : v0 / 10 ^ k = 0) (hv0 : 0 ≤ v0) : strOfNums (dg k v0) ++ strOfNums (dg (9 * j) N) = strOfNums (dec N) := by
  subst hv
  have hp : (0 : Int) < 10 ^ (9 * j) := Int.pow_pos (by decide)
  have hp1 : (0 : Int) < 10 ^ (k - 1) := Int.pow_pos (by decide)
  have hp2 : (0 : Int) < 10 ^ k := Int.pow_pos (by decide)
  have a1 : 10 ^ (k - 1) ≤ v0 := by
    rcases Int.lt_or_le v0 (10 ^ (k - 1)) with h | h
    · rw [Int.ediv_eq_zero_of_lt hv0 h] at h1; omega
    · exact h
  have a2 : v0 < 10 ^ k := by
    rcases Int.lt_or_le v0 (10 ^ k) with h | h
    · exact h
    · have := Int.le_ediv_of_mul_le hp2 (show 1 * 10 ^ k ≤ v0 by omega); omega
  obtain ⟨i, rfl⟩ : ∃ i, k = i + 1 := ⟨k - 1, by omega⟩
  rw [Nat.add_sub_cancel] at a1
  have b1 : 10 ^ (i + 9 * j) ≤ N := by
    rw [Int.pow_add]
    have h3 := Int.mul_le_mul_of_nonneg_right a1 (Int.le_of_lt hp)
    have h4 := Int.ediv_mul_le N (show (10 : Int) ^ (9 * j) ≠ 0 by omega)
    rw [← hM] at h4
    omega
  have b2 : N < 10 ^ (i + 9 * j + 1) := by
    rw [show i + 9 * j + 1 = (i + 1) + 9 * j by omega, Int.pow_add]
    have h3 := Int.lt_ediv_add_one_mul_self N hp
    rw [← hM] at h3
    have h4 : (v0 + 1) * 10 ^ (9 * j) ≤ 10 ^ (i + 1) * 10 ^ (9 * j) := Int.mul_le_mul_of_nonneg_right (by omega) (Int.le_of_lt hp)
    omega
  have e := dec_top b1 b2
  rw [str_append, e, hM, ← dg_add]
  congr 2
  omega
theorem txt_room {N : Int} {j n : Nat} (h : 0 < N / 10 ^ (9 * j) ∨ j = 0) (hN : N < 10 ^ n) (h0 : 0 ≤ N) : 9 * j ≤ n := by
  rcases h with h | h
  · rcases Nat.lt_or_ge n (9 * j) with a | a
    · have : N / 10 ^ (9 * j) = 0 := Int.ediv_eq_zero_of_lt h0 (Int.lt_of_lt_of_le hN (pow_le_pow (by decide) (Nat.le_of_lt a)))
      omega
    · exact a
  · subst h; omega

set_option maxRecDepth 100000 in
set_option maxHeartbeats 8000000 in
theorem rtext_any (aa : Option Addr) (na ca : Nat) (la : List Int) (n : Nat) (w : World) (hna : na = la.length) (h1 : na ≤ ca) (h2 : ca ≤ 9223372036854775807) (ha : Rd w aa la) (hla : Can B32 la) (hN : vb B32 la < 10 ^ n) (hn : n ≤ 19000) (hM : na ≤ 10000) :
    Calls Tryd.prog 27 #[.slice aa na ca] w fun e w' => RetV w (.string (strOfNums (dec (vb B32 la)))) e w' := by
  obtain ⟨N, hNe⟩ : ∃ N, N = vb B32 la := ⟨_, rfl⟩
  have hN0 := vb_nonneg B32_pos hla.lim
  rw [← hNe] at hN hN0 ⊢
  have HLT := Lib.hid hN
  have HNE := Lib.hid hNe
  have HNA := Lib.hid hna
  clear hN hNe hna
  go_enter Tryd.func27, Tryd.ntmps27
  go_wp2_with fail
  refine (small_any 1000000000 w (by decide) (by decide)).mono ?_
  rintro e w1 ⟨aT, nT, cT, lT, rfl, hnT, hT1, hT2, hT3, hT4, hT5, hb1, -⟩
  have hten : Can B32 [1000000000] := ⟨Lim.cons (by decide) (by decide) (Lim.nil _), by decide⟩
  obtain rfl : lT = [1000000000] := can_eq B32_pos hT4 hten (by rw [hT5]; decide)
  obtain rfl : nT = 1 := hnT
  obtain ⟨bT, oT, rfl, hTat⟩ := hT3.cases (by simp)
  clear hT3 hT4 hT5 hten
  go_wp2_with fail
  go_loopw [0, 3] (fun ua us wr => ∃ (l : List Int) (S : ByteArray), RdD wr ua l ∧ us = .string S ∧ Below w1.heap.size w1 wr ∧ Hid (TxtAt N (vb B32 l) S) ∧ l.length ≤ 10000)
    (fun _ us _ => 60000 - (match us with | .string S => S.size | _ => 0))
  case atStart =>
    refine ⟨la, ⟨#[]⟩, ⟨aa, ca, by rw [HNA.out], by rw [← HNA.out]; exact h1, h2, ha.below hb1, hla⟩, rfl, Below.refl _ _, Or.inl ⟨0, ?_, rfl, Or.inr rfl⟩, by rw [← HNA.out]; exact hM⟩
    rw [← HNE.out]; simp
  case round =>
    obtain ⟨l, S, ⟨al, cl, rfl, hl1, hl2, hl3, hl4⟩, rfl, hbl, HTX, hl5⟩ := hrel
    have hbw : Below w.heap.size w wr := hb1.trans (hbl.mono hb1.size)
    obtain ⟨nl, hnl⟩ : ∃ nl, nl = l.length := ⟨_, rfl⟩
    rw [← hnl] at hl1 hl5
    rw [← hnl]
    by_cases hl0 : nl = 0
    · subst hl0
      obtain rfl : l = [] := List.eq_nil_of_length_eq_zero hnl.symm
      rcases HTX.out with ⟨j, hMj, hS, hj⟩ | ⟨_, hS, hNp⟩
      · obtain rfl : j = 0 := by
          rcases hj with h | h
          · simp at h
          · exact h
        have hNz : N = 0 := by simp at hMj; omega
        have hSe : S = ⟨#[]⟩ := by rw [hS]; rfl
        subst hSe
        have HNZ := Lib.hid hNz
        clear hMj hS hj hNz HTX hnl
        go_wp2_with fail
        go_ret
        exact ⟨by rw [HNZ.out, dec_zero]; rfl, hbw⟩
      · have hsz : 0 < S.size := by rw [hS, dec_size]; exact (dec_spec hN0).2.2
        have HS := Lib.hid hS
        have hse : S.toList.isEmpty = false := by
          rw [ByteArray.toList_eq, hS, dec_bytes]
          have h3 := (dec_spec hN0).2.2
          unfold bytesOf
          cases hd : dec N with
          | nil => rw [hd] at h3; simp at h3
          | cons _ _ => rfl
        clear hS HTX hnl
        go_wp2_with fail
        go_ret
        exact ⟨by rw [← HS.out]; rfl, hbw⟩
    · have hMp : 0 < vb B32 l := by
        have h5 := hl4.ge B32_pos (by intro e; subst e; simp at hnl; omega)
        have h6 := pow_pos' B32_pos (l.length - 1)
        omega
      obtain ⟨M, hMe⟩ : ∃ M, M = vb B32 l := ⟨_, rfl⟩
      rw [← hMe] at hMp HTX
      obtain ⟨j, hMj, hS, hjj⟩ : ∃ j : Nat, M = N / 10 ^ (9 * j) ∧ S = strOfNums (dg (9 * j) N) ∧ (0 < M ∨ j = 0) := by
        rcases HTX.out with h | ⟨h, _⟩
        · exact h
        · omega
      have hSz : S.size ≤ 19000 := by
        rw [hS, str_size, dg_length]
        have := txt_room (N := N) (j := j) (n := n) (by rw [← hMj]; exact hjj) HLT.out hN0
        omega
      have HDM := Lib.hid (rdiv1_any al nl cl l bT oT cT 1000000000 wr hnl hl1 hl2 hT1 hT2 hl3 hl4 (hTat.below hbl) (by decide) (by decide) (by unfold MaxW; omega))
      rw [← hMe] at HDM
      have hnlI : (0 : Int) < (nl : Int) := by omega
      have hMlt : M < B32 ^ nl := by rw [hMe, hnl]; exact vb_lt B32_pos hl4.lim
      have HS := Lib.hid hS
      have HMJ := Lib.hid hMj
      clear HTX hS hMj hjj hnl hMe
      go_wp2_with fail
      refine HDM.out.mono ?_
      rintro e w2 ⟨aq, nq, cq, lq, ar, nr, cr, lr, rfl, ⟨aq', cq', hqe, hq1, hq2, hq3, hq4⟩, hqv, ⟨ar', cr', hre, hr1, hr2, hr3, hr4⟩, hrv, hb2⟩
      simp only [Value.slice.injEq] at hqe hre
      obtain ⟨rfl, hnq, rfl⟩ := hqe
      obtain ⟨rfl, hnr, rfl⟩ := hre
      have hbl2 : Below w1.heap.size w1 w2 := hbl.trans (hb2.mono hbl.size)
      obtain ⟨v0, hv0⟩ : ∃ v0, v0 = M % 1000000000 := ⟨_, rfl⟩
      rw [← hv0] at hrv
      have hv0a : 0 ≤ v0 := by omega
      have hv0b : v0 ≤ 999999999 := by omega
      have hqM : (nq = 0 ↔ M / 1000000000 = 0) := by
        rw [← hqv, hnq]
        refine ⟨fun h => by rw [List.eq_nil_of_length_eq_zero h]; rfl, fun h => by rw [hq4.eq_nil B32_pos h]; rfl⟩
      have hql : lq.length ≤ 10000 := by
        have h5 : vb B32 lq ≤ M := by rw [hqv]; exact Int.ediv_le_self _ (Int.le_of_lt hMp)
        have h6 := len_room32 (m := nl) hq4 (by omega)
        omega
      have HV0 := Lib.hid hv0
      have HQV := Lib.hid hqv
      have HNQ := Lib.hid hnq
      have HQ1 := Lib.hid hq1
      have HQ2 := Lib.hid hq2
      have HQ3 := Lib.hid hq3
      have HQM := Lib.hid hqM
      have hcase : (nr = 0 ∧ v0 = 0) ∨ (∃ br orr, ar = some ⟨br, orr, none⟩ ∧ 0 < nr ∧ w2.cell? ⟨br, orr, none⟩ = some (.int .u64 v0)) := by
        by_cases h0 : lr = []
        · left
          subst h0
          exact ⟨hnr, by rw [← hrv]; rfl⟩
        · right
          obtain ⟨br, orr, rfl, hrat⟩ := hr3.cases h0
          have hlen : lr.length = 1 := by
            have h5 := hr4.ge B32_pos h0
            have h6 : 0 < lr.length := List.length_pos_iff.2 h0
            rcases Nat.lt_or_ge 1 lr.length with h7 | h7
            · have h8 := pow_le_pow B32_pos (show 1 ≤ lr.length - 1 by omega)
              have h9 : B32 ^ 1 = 4294967296 := by decide
              omega
            · omega
          refine ⟨br, orr, rfl, by omega, ?_⟩
          have h5 := hrat 0 (by omega)
          have h6 : lr.getD 0 0 = v0 := by
            rw [← hrv]
            match lr, hlen with
            | [x], _ => simp [vb_cons]
          rw [h6] at h5
          exact h5
      clear hv0 hqv hnq hqM hnr hrv hr1 hr2 hr3 hr4 hq1 hq2 hq3
      rcases hcase with ⟨rfl, hv00⟩ | ⟨br, orr, rfl, hnr0, hcr⟩
      · have hnr0 : nq = nq := rfl
        go_wp2_with fail
        go_loopw [7, 8, 9] (fun uv up uk wx => ∃ k : Nat, k ≤ 9 ∧ uk = .int .i64 k ∧ uv = .int .u64 (v0 / 10 ^ k) ∧ up = .string (strOfNums (dg k v0)) ∧ Below w2.heap.size w2 wx ∧ Hid (k = 0 ∨ 0 < v0 / 10 ^ (k - 1) ∨ 0 < nq))
          (fun _ _ uk _ => 9 - (intOf uk).toNat)
        case atStart => exact ⟨0, by decide, rfl, by rw [hv00]; rfl, rfl, Below.refl _ _, Or.inl rfl⟩
        case round =>
          obtain ⟨k, hk9, rfl, rfl, rfl, hbx, HR⟩ := hrel
          obtain ⟨x, hx⟩ : ∃ x, v0 / 10 ^ k = x := ⟨_, rfl⟩
          have hp : (0 : Int) < 10 ^ k := Int.pow_pos (by decide)
          have hx0 : 0 ≤ x := by rw [← hx]; exact Int.ediv_nonneg hv0a (Int.le_of_lt hp)
          have hx1 : x ≤ 999999999 := by rw [← hx]; exact Int.le_trans (Int.ediv_le_self _ hv0a) hv0b
          have hdg : strOfNums (dg (k + 1) v0) = strOfNums [48 + x % 10] ++ strOfNums (dg k v0) := by rw [str_append, dg_cons, hx]; rfl
          have hnx : x / 10 = v0 / 10 ^ (k + 1) := by rw [← hx, ediv_pow10']
          obtain ⟨y, hy⟩ : ∃ y, x % 10 = y := ⟨_, rfl⟩
          obtain ⟨z, hz⟩ : ∃ z, x / 10 = z := ⟨_, rfl⟩
          have hy2 : x.tmod 10 = y := by rw [Int.tmod_eq_emod_of_nonneg hx0, hy]
          have hz2 : x.tdiv 10 = z := by rw [Int.tdiv_eq_ediv_of_nonneg hx0, hz]
          obtain ⟨c, hc⟩ : ∃ c, 48 + y = c := ⟨_, rfl⟩
          have hcb : 48 ≤ c ∧ c ≤ 57 := by omega
          have hc0 : 48 ≤ c := hcb.1
          have hc1 : c ≤ 57 := hcb.2
          rw [hy, hc] at hdg
          rw [hz] at hnx
          rw [hx]
          have HX := Lib.hid hx
          obtain ⟨G, hG⟩ : ∃ G, G = strOfNums (dg k v0) := ⟨_, rfl⟩
          have hGs : G.size ≤ 9 := by rw [hG, str_size, dg_length]; exact hk9
          rw [← hG] at hdg ⊢
          have HDG := Lib.hid hdg
          have HNX := Lib.hid hnx
          have HG := Lib.hid hG
          clear hx hdg hnx hG
          have hkI : (k : Int) ≤ 9 := by omega
          obtain ⟨C1, hC1⟩ : ∃ C1, C1 = strOfNums [c] := ⟨_, rfl⟩
          have hC1s : C1.size = 1 := by rw [hC1]; rfl
          have hcv := run_convert_bytes_arg (P := Tryd.prog) (wr.alloc (.cells #[.int .u8 c] 5)) 93 5 Tryd.underlying93 Tryd.underlying5 wr.heap.size 0 1 1 [c] rfl (fun i hi => by
            obtain rfl : i = 0 := by omega
            rw [Nat.add_zero, World.cell?_alloc_new]; rfl) 9 Tryd.underlying9
          rw [← hC1] at hcv
          have HDG2 : Hid (strOfNums (dg (k + 1) v0) = C1 ++ G) := by show _ = _; rw [HDG.out, hC1]
          have hbx2 := hbx.alloc hbx.size (.cells #[.int .u8 c] 5)
          clear hC1
          by_cases hgo : k < 9 ∧ (0 < x ∨ 0 < nq)
          · have hkI9 : (k : Int) < 9 := by omega
            by_cases hxp : 0 < x
            · go_wp2_with fail
              go_roundw
              case rel =>
                refine ⟨k + 1, by omega, by go_num, by rw [← HNX.out], by rw [HDG2.out], hbx2, Or.inr (Or.inl ?_)⟩
                rw [Nat.add_sub_cancel, HX.out]; exact hxp
              case measure => simp [intOf]; omega
            · have hnq0 : 0 < nq := by omega
              have hnqI : (0 : Int) < (nq : Int) := by omega
              go_wp2_with fail
              go_roundw
              case rel =>
                exact ⟨k + 1, by omega, by go_num, by rw [← HNX.out], by rw [HDG2.out], hbx2, Or.inr (Or.inr hnq0)⟩
              case measure => simp [intOf]; omega
          · have hbl3 : Below w1.heap.size w1 wr := hbl2.trans (hbx.mono hbl2.size)
            have hqd : RdD wr (.slice aq nq cq) lq := ⟨aq, cq, by rw [HNQ.out], HQ1.out, HQ2.out, HQ3.out.below hbx, hq4⟩
            have hk1 : 1 ≤ k := by
              rcases Nat.eq_zero_or_pos k with h | h
              · exfalso
                have h5 := HX.out
                subst h
                simp at h5
                have h6 : x = 0 ∧ nq = 0 := by omega
                have h7 := HQM.out.1 h6.2
                have h8 := HV0.out
                omega
              · exact h
            have hGk : G.size = k := by rw [HG.out, str_size, dg_length]
            have hfin : Hid (TxtAt N (vb B32 lq) (G ++ S)) := by
              show TxtAt _ _ _
              rw [HG.out, HS.out]
              by_cases hq0 : nq = 0
              · right
                have h7 := HQM.out.1 hq0
                have h8 := HV0.out
                have h9 : v0 = M := by omega
                have hx00 : x = 0 := by
                  by_cases h10 : k = 9
                  · rw [← HX.out, h10]; omega
                  · omega
                have hNp : 0 < N := by
                  rcases Int.lt_or_le 0 N with a | a
                  · exact a
                  · have e : N = 0 := by omega
                    have h11 := HMJ.out
                    rw [e, Int.zero_ediv] at h11
                    omega
                refine ⟨by rw [HQV.out, h7], ?_, hNp⟩
                refine txt_end HMJ.out h9 hk1 ?_ (by rw [HX.out, hx00]) hv0a
                rcases HR.out with h | h | h
                · omega
                · exact h
                · omega
              · left
                have hk9' : k = 9 := by omega
                refine ⟨j + 1, ?_, ?_, Or.inl ?_⟩
                · rw [HQV.out, HMJ.out, Int.ediv_ediv_of_nonneg (Int.le_of_lt (Int.pow_pos (by decide)))]
                  congr 1
                  rw [show 9 * (j + 1) = 9 * j + 9 by omega, Int.pow_add]
                  rfl
                · rw [hk9']; exact txt_go HMJ.out HV0.out
                · have h5 := hq4.ge B32_pos (by intro e; have := HNQ.out; rw [e] at this; simp at this; omega)
                  have h6 := pow_pos' B32_pos (lq.length - 1)
                  omega
            have hsz2 : (G ++ S).size = k + S.size := by rw [ByteArray.size_append, hGk]
            have HSZ := Lib.hid hsz2
            clear hqd hsz2
            have hqd2 : RdD wr (.slice aq nq cq) lq := ⟨aq, cq, by rw [HNQ.out], HQ1.out, HQ2.out, HQ3.out.below hbx, hq4⟩
            by_cases hk9e : k = 9
            · have hk9n : ¬ (k : Int) < 9 := by omega
              go_wp2_with fail
              go_roundw
              case rel => exact ⟨lq, G ++ S, hqd2, rfl, hbl3, hfin, hql⟩
              case measure =>
                show 60000 - (G ++ S).size < 60000 - S.size
                have := HSZ.out
                omega
            · have hk9n : (k : Int) < 9 := by omega
              obtain ⟨hx00, rfl⟩ : x = 0 ∧ nq = 0 := by omega
              have hxn : ¬ 0 < x := by omega
              clear hx00
              go_wp2_with fail
              go_roundw
              case rel => exact ⟨lq, G ++ S, hqd2, rfl, hbl3, hfin, hql⟩
              case measure =>
                show 60000 - (G ++ S).size < 60000 - S.size
                have := HSZ.out
                omega
      · have hnrI : (0 : Int) < (nr : Int) := by omega
        go_wp2_with fail
        go_loopw [7, 8, 9] (fun uv up uk wx => ∃ k : Nat, k ≤ 9 ∧ uk = .int .i64 k ∧ uv = .int .u64 (v0 / 10 ^ k) ∧ up = .string (strOfNums (dg k v0)) ∧ Below w2.heap.size w2 wx ∧ Hid (k = 0 ∨ 0 < v0 / 10 ^ (k - 1) ∨ 0 < nq))
          (fun _ _ uk _ => 9 - (intOf uk).toNat)
        case atStart => exact ⟨0, by decide, rfl, by simp, rfl, Below.refl _ _, Or.inl rfl⟩
        case round =>
          obtain ⟨k, hk9, rfl, rfl, rfl, hbx, HR⟩ := hrel
          obtain ⟨x, hx⟩ : ∃ x, v0 / 10 ^ k = x := ⟨_, rfl⟩
          have hp : (0 : Int) < 10 ^ k := Int.pow_pos (by decide)
          have hx0 : 0 ≤ x := by rw [← hx]; exact Int.ediv_nonneg hv0a (Int.le_of_lt hp)
          have hx1 : x ≤ 999999999 := by rw [← hx]; exact Int.le_trans (Int.ediv_le_self _ hv0a) hv0b
          have hdg : strOfNums (dg (k + 1) v0) = strOfNums [48 + x % 10] ++ strOfNums (dg k v0) := by rw [str_append, dg_cons, hx]; rfl
          have hnx : x / 10 = v0 / 10 ^ (k + 1) := by rw [← hx, ediv_pow10']
          obtain ⟨y, hy⟩ : ∃ y, x % 10 = y := ⟨_, rfl⟩
          obtain ⟨z, hz⟩ : ∃ z, x / 10 = z := ⟨_, rfl⟩
          have hy2 : x.tmod 10 = y := by rw [Int.tmod_eq_emod_of_nonneg hx0, hy]
          have hz2 : x.tdiv 10 = z := by rw [Int.tdiv_eq_ediv_of_nonneg hx0, hz]
          obtain ⟨c, hc⟩ : ∃ c, 48 + y = c := ⟨_, rfl⟩
          have hcb : 48 ≤ c ∧ c ≤ 57 := by omega
          have hc0 : 48 ≤ c := hcb.1
          have hc1 : c ≤ 57 := hcb.2
          rw [hy, hc] at hdg
          rw [hz] at hnx
          rw [hx]
          have HX := Lib.hid hx
          obtain ⟨G, hG⟩ : ∃ G, G = strOfNums (dg k v0) := ⟨_, rfl⟩
          have hGs : G.size ≤ 9 := by rw [hG, str_size, dg_length]; exact hk9
          rw [← hG] at hdg ⊢
          have HDG := Lib.hid hdg
          have HNX := Lib.hid hnx
          have HG := Lib.hid hG
          clear hx hdg hnx hG
          have hkI : (k : Int) ≤ 9 := by omega
          obtain ⟨C1, hC1⟩ : ∃ C1, C1 = strOfNums [c] := ⟨_, rfl⟩
          have hC1s : C1.size = 1 := by rw [hC1]; rfl
          have hcv := run_convert_bytes_arg (P := Tryd.prog) (wr.alloc (.cells #[.int .u8 c] 5)) 93 5 Tryd.underlying93 Tryd.underlying5 wr.heap.size 0 1 1 [c] rfl (fun i hi => by
            obtain rfl : i = 0 := by omega
            rw [Nat.add_zero, World.cell?_alloc_new]; rfl) 9 Tryd.underlying9
          rw [← hC1] at hcv
          have HDG2 : Hid (strOfNums (dg (k + 1) v0) = C1 ++ G) := by show _ = _; rw [HDG.out, hC1]
          have hbx2 := hbx.alloc hbx.size (.cells #[.int .u8 c] 5)
          clear hC1
          by_cases hgo : k < 9 ∧ (0 < x ∨ 0 < nq)
          · have hkI9 : (k : Int) < 9 := by omega
            by_cases hxp : 0 < x
            · go_wp2_with fail
              go_roundw
              case rel =>
                refine ⟨k + 1, by omega, by go_num, by rw [← HNX.out], by rw [HDG2.out], hbx2, Or.inr (Or.inl ?_)⟩
                rw [Nat.add_sub_cancel, HX.out]; exact hxp
              case measure => simp [intOf]; omega
            · have hnq0 : 0 < nq := by omega
              have hnqI : (0 : Int) < (nq : Int) := by omega
              go_wp2_with fail
              go_roundw
              case rel =>
                exact ⟨k + 1, by omega, by go_num, by rw [← HNX.out], by rw [HDG2.out], hbx2, Or.inr (Or.inr hnq0)⟩
              case measure => simp [intOf]; omega
          · have hbl3 : Below w1.heap.size w1 wr := hbl2.trans (hbx.mono hbl2.size)
            have hqd : RdD wr (.slice aq nq cq) lq := ⟨aq, cq, by rw [HNQ.out], HQ1.out, HQ2.out, HQ3.out.below hbx, hq4⟩
            have hk1 : 1 ≤ k := by
              rcases Nat.eq_zero_or_pos k with h | h
              · exfalso
                have h5 := HX.out
                subst h
                simp at h5
                have h6 : x = 0 ∧ nq = 0 := by omega
                have h7 := HQM.out.1 h6.2
                have h8 := HV0.out
                omega
              · exact h
            have hGk : G.size = k := by rw [HG.out, str_size, dg_length]
            have hfin : Hid (TxtAt N (vb B32 lq) (G ++ S)) := by
              show TxtAt _ _ _
              rw [HG.out, HS.out]
              by_cases hq0 : nq = 0
              · right
                have h7 := HQM.out.1 hq0
                have h8 := HV0.out
                have h9 : v0 = M := by omega
                have hx00 : x = 0 := by
                  by_cases h10 : k = 9
                  · rw [← HX.out, h10]; omega
                  · omega
                have hNp : 0 < N := by
                  rcases Int.lt_or_le 0 N with a | a
                  · exact a
                  · have e : N = 0 := by omega
                    have h11 := HMJ.out
                    rw [e, Int.zero_ediv] at h11
                    omega
                refine ⟨by rw [HQV.out, h7], ?_, hNp⟩
                refine txt_end HMJ.out h9 hk1 ?_ (by rw [HX.out, hx00]) hv0a
                rcases HR.out with h | h | h
                · omega
                · exact h
                · omega
              · left
                have hk9' : k = 9 := by omega
                refine ⟨j + 1, ?_, ?_, Or.inl ?_⟩
                · rw [HQV.out, HMJ.out, Int.ediv_ediv_of_nonneg (Int.le_of_lt (Int.pow_pos (by decide)))]
                  congr 1
                  rw [show 9 * (j + 1) = 9 * j + 9 by omega, Int.pow_add]
                  rfl
                · rw [hk9']; exact txt_go HMJ.out HV0.out
                · have h5 := hq4.ge B32_pos (by intro e; have := HNQ.out; rw [e] at this; simp at this; omega)
                  have h6 := pow_pos' B32_pos (lq.length - 1)
                  omega
            have hsz2 : (G ++ S).size = k + S.size := by rw [ByteArray.size_append, hGk]
            have HSZ := Lib.hid hsz2
            clear hqd hsz2
            have hqd2 : RdD wr (.slice aq nq cq) lq := ⟨aq, cq, by rw [HNQ.out], HQ1.out, HQ2.out, HQ3.out.below hbx, hq4⟩
            by_cases hk9e : k = 9
            · have hk9n : ¬ (k : Int) < 9 := by omega
              go_wp2_with fail
              go_roundw
              case rel => exact ⟨lq, G ++ S, hqd2, rfl, hbl3, hfin, hql⟩
              case measure =>
                show 60000 - (G ++ S).size < 60000 - S.size
                have := HSZ.out
                omega
            · have hk9n : (k : Int) < 9 := by omega
              obtain ⟨hx00, rfl⟩ : x = 0 ∧ nq = 0 := by omega
              have hxn : ¬ 0 < x := by omega
              clear hx00
              go_wp2_with fail
              go_roundw
              case rel => exact ⟨lq, G ++ S, hqd2, rfl, hbl3, hfin, hql⟩
              case measure =>
                show 60000 - (G ++ S).size < 60000 - S.size
                have := HSZ.out
                omega
end Go.Proofs.YtfanhllcoaondaaDoor
