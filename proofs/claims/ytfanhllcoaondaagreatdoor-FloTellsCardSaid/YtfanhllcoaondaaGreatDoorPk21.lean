/-
  Whole4: Contract of whole.Int.Add: any number of integers. Contracts of package whole: Add of one, Sub, Text of small amounts.
  Product: Contract of whole.product: the product of any count of numbers, by halves.
  WholeM: Contract of whole.Int.Mul: any number of integers.
  WholeT: Contracts of whole.Int.Text, whole.Int.Shl and the reference's Digits. Rows of one integer as the arguments of Add and Mul, cells of a new row, and what new memory leaves of a cell.
-/
import Derived.Test.YtfanhllcoaondaaGreatDoorPk20
import Derived.Test.YtfanhllcoaondaaGreatDoorPk19
import Derived.Laws.AppendOwnNone
import Derived.Test.YtfanhllcoaondaaGreatDoorPk7
import Derived.Deep.RegionWith

namespace Go.Proofs.YtfanhllcoaondaaGreatDoor
open Go.RowKit


/-- Integers as a row holds them: below 0 or not, the amount's slice, the amount. -/
abbrev Els := List (Bool × Value × Int)
def cel (l : Els) : List Value := l.flatMap fun e => [.bool e.1, e.2.1]
def pls (l : Els) : List Value := (l.filter fun e => !e.1).map (·.2.1)
def mis (l : Els) : List Value := (l.filter fun e => e.1).map (·.2.1)
def zsum (l : Els) : Int := (l.map fun e => sg e.1 e.2.2).sum
def psum (l : Els) : Int := ((l.filter fun e => !e.1).map (·.2.2)).sum
def msum (l : Els) : Int := ((l.filter fun e => e.1).map (·.2.2)).sum
def EOk (w : World) (m : Nat) (e : Bool × Value × Int) : Prop := ∃ a n c, e.2.1 = .slice a n c ∧ Num w (.slice a n c) e.2.2 m
/-- A slice of integers reads so. -/
def RdI (w : World) (ao : Option Addr) (l : Els) : Prop := ∀ a, ao = some a → ∀ j u, (cel l)[j]? = some u → w.cell? (a.add j) = some u

theorem cel_cons (e : Bool × Value × Int) (l : Els) : cel (e :: l) = .bool e.1 :: e.2.1 :: cel l := rfl
theorem cel_length (l : Els) : (cel l).length = l.length * 2 := by
  induction l with
  | nil => rfl
  | cons e l ih => rw [cel_cons]; simp [ih]; omega
theorem cel_get {l : Els} {k : Nat} (hk : k < l.length) : (cel l)[k * 2]? = some (.bool (l.getD k (false, undef, 0)).1) ∧ (cel l)[k * 2 + 1]? = some (l.getD k (false, undef, 0)).2.1 := by
  induction l generalizing k with
  | nil => simp at hk
  | cons e l ih =>
    cases k with
    | zero => exact ⟨rfl, rfl⟩
    | succ k =>
      have := ih (k := k) (by simpa using hk)
      rw [cel_cons, show (k + 1) * 2 = k * 2 + 1 + 1 by omega, show k * 2 + 1 + 1 + 1 = (k * 2 + 1) + 1 + 1 by omega]
      simpa using this
theorem zsum_split (l : Els) : zsum l = psum l - msum l := by
  induction l with
  | nil => rfl
  | cons e l ih =>
    obtain ⟨b, v, N⟩ := e
    simp only [zsum, psum, msum, sg] at ih ⊢
    cases b <;> simp <;> omega
theorem take_snoc {l : Els} {k : Nat} (hk : k < l.length) : l.take (k + 1) = l.take k ++ [l.getD k (false, undef, 0)] := by
  rw [List.take_succ_eq_append_getElem hk, List.getD_eq_getElem?_getD, List.getElem?_eq_getElem hk]
  rfl
theorem pls_snoc {l : Els} {k : Nat} (hk : k < l.length) {b : Bool} {v : Value} {N : Int} (he : l.getD k (false, undef, 0) = (b, v, N)) : pls (l.take (k + 1)) = pls (l.take k) ++ (if b then [] else [v]) := by
  rw [take_snoc hk, he]
  cases b <;> simp [pls]
theorem mis_snoc {l : Els} {k : Nat} (hk : k < l.length) {b : Bool} {v : Value} {N : Int} (he : l.getD k (false, undef, 0) = (b, v, N)) : mis (l.take (k + 1)) = mis (l.take k) ++ (if b then [v] else []) := by
  rw [take_snoc hk, he]
  cases b <;> simp [mis]
theorem pls_len (l : Els) : (pls l).length ≤ l.length := by unfold pls; rw [List.length_map]; exact List.length_filter_le ..
theorem mis_len (l : Els) : (mis l).length ≤ l.length := by unfold mis; rw [List.length_map]; exact List.length_filter_le ..

/-- The lists of words behind a row of numbers. -/
theorem lists_of {w : World} {m : Nat} (l : List (Value × Int)) (h : ∀ e ∈ l, Num w e.1 e.2 m) : ∃ ls : List (List Int), ls.length = (l.map (·.1)).length ∧ (∀ j, j < (l.map (·.1)).length → RdV w ((l.map (·.1)).getD j undef) (ls.getD j [])) ∧ (∀ j, (ls.getD j []).length ≤ m) ∧ sumv ls = (l.map (·.2)).sum ∧
    (l.map (·.2)).sum ≤ l.length * B64 ^ m := by
  induction l with
  | nil => exact ⟨[], rfl, fun j hj => by simp at hj, fun j => by simp, rfl, by simp⟩
  | cons e l ih =>
    obtain ⟨ls, h1, h2, h3, h4, h5⟩ := ih (fun x hx => h x (List.mem_cons_of_mem _ hx))
    have hn := h e (List.mem_cons_self ..)
    have hlt := hn.lt
    obtain ⟨l0, k1, k2, k3⟩ := hn
    refine ⟨l0 :: ls, by simpa using h1, ?_, ?_, ?_, ?_⟩
    · intro j hj
      cases j with
      | zero => exact k1
      | succ j => exact h2 j (by simpa using hj)
    · intro j
      cases j with
      | zero => exact k3
      | succ j => exact h3 j
    · rw [sumv_cons, h4, k2]; simp
    · simp only [List.map_cons, List.sum_cons, List.length_cons]
      have e : ((l.length + 1 : Nat) : Int) * B64 ^ m = l.length * B64 ^ m + B64 ^ m := by
        rw [Int.natCast_add, Int.add_mul]; simp
      omega

theorem info_int : (Tryz.prog.info? 58).map (fun i => (i.zero, i.size, i.bytes)) = some (some (.agg #[.bool false, .slice none 0 0]), 2, 32) := by kernel_rfl

/-- append(row of integers, integers ..). -/
theorem wpList_append_ints {P : Program} (w : World) {ops : Array Oper} {rest : List Oper} {o : Oper} {a : Act} {Q : Exit → Act → World → Prop} (hgd : o.guard = none) (s x : Operand) (t : TypeId)
    (ho : o.op = .call { callee := .builtin .append, args := #[s, x], argTypes := #[t, t] }) (ht : P.underlying t = some (.slice 58)) (hi : (P.info? 58).map (fun i => (i.zero, i.size, i.bytes)) = some (some (.agg #[.bool false, .slice none 0 0]), 2, 32))
    (base : Nat) (v : Value) (n : Nat) (xs : List Value) (hs : a.eval s = v) (hown : w.ownsRow base 58 2 v n xs)
    (ao : Option Addr) (m c : Nat) (l : Els) (hx : a.eval x = .slice ao m c) (hm : m = l.length) (hnone : ao = none → m = 0 ∧ c = 0) (hnews : RdI w ao l) (h1 : ∀ u ∈ cel l, u.oneCell' = true)
    (hn : 0 < n) (hM : n + m ≤ 65536) (hbase : base ≤ w.heap.size)
    (hK : ∀ g cap w', w'.ownsRow base 58 2 (.slice (some ⟨g, 0, none⟩) (n + m) cap) (n + m) (xs ++ cel l) → w.grownBy w' v.ownBlock → wpList P ops Q rest (a.put o.dst (.slice (some ⟨g, 0, none⟩) (n + m) cap)) w') : wpList P ops Q (o :: rest) a w := by
  obtain ⟨i, h2, h3, h4, h5⟩ := info_parts hi
  have fin : ∀ v' w', w'.ownsRow base 58 2 v' (n + m) (xs ++ cel l) → w.grownBy w' v.ownBlock → wpList P ops Q rest (a.put o.dst v') w' := by
    intro v' w' h hg
    have h' := h
    rcases h.2 with ⟨_, h0⟩ | ⟨g, cap, cur, rfl, _⟩
    · omega
    · exact hK g cap w' h' hg
  cases ao with
  | none =>
    obtain ⟨rfl, rfl⟩ := hnone rfl
    obtain rfl : l = [] := List.eq_nil_of_length_eq_zero hm.symm
    refine wpList_append_own_none hgd s x t ho base 58 i 2 ht h2 v n xs hs hown hx (fin v w ?_ ?_)
    · simpa [cel] using hown
    · exact ⟨rfl, rfl, rfl, Nat.le_refl _, fun _ _ _ => rfl⟩
  | some ad =>
    refine wpList_append_own_at w hgd s x t ho base 58 i (.agg #[.bool false, .slice none 0 0]) 2 32 ht h2 h3 h4 h5 rfl (by decide) v n xs hs hown ad m c (cel l) hx (by rw [cel_length, hm]) (hnews ad rfl) h1 (by unfold maxLen; omega) (by omega) hbase fun v' w' hown' hgr _ _ => fin v' w' hown' hgr

theorem newv1_at (w : World) (a : Value) (t : TypeId) (g : Nat) (hg : w.heap.size = g) : ∀ j u, [a][j]? = some u → (w.alloc (.cells #[a] t)).cell? ((⟨g, 0, none⟩ : Addr).add j) = some u := by
  subst hg
  exact newv1 w a t

set_option maxRecDepth 100000 in
set_option maxHeartbeats 4000000 in
theorem addw_num {w : World} (p : Bool) {a : Option Addr} {n c : Nat} {A : Int} {m : Nat} (hA : Num w (.slice a n c) A m) (al : Option Addr) (nl cl : Nat) (els : Els) (hnl : nl = els.length) (hnone : al = none → nl = 0 ∧ cl = 0)
    (hrd : RdI w al els) (hel : ∀ e ∈ els, EOk w m e) (hlen : els.length ≤ 1000) (hm : m ≤ 1000) :
    Calls Tryz.prog 100 #[.agg #[.bool p, .slice a n c], .slice al nl cl] w fun e w' => RetW w (sg p A + zsum els) (m + 1) e w' := by
  obtain ⟨E, hE⟩ : ∃ E : Els, E = (p, .slice a n c, A) :: els := ⟨_, rfl⟩
  have hEl : E.length = 1 + nl := by rw [hE, hnl]; simp; omega
  have hEok : ∀ e ∈ E, EOk w m e := by
    intro e he
    rw [hE] at he
    rcases List.mem_cons.1 he with rfl | he
    · exact ⟨a, n, c, rfl, hA⟩
    · exact hel e he
  have hz : sg p A + zsum els = psum E - msum E := by rw [← zsum_split, hE]; simp [zsum]
  have hcE : [Value.bool p, .slice a n c] ++ cel els = cel E := by rw [hE]; rfl
  have hones : ∀ u ∈ cel els, u.oneCell' = true := by
    intro u hu
    obtain ⟨e, he, hu⟩ := List.mem_flatMap.1 hu
    obtain ⟨a', n', c', h1, _⟩ := hel e he
    rw [h1] at hu
    simp at hu
    rcases hu with rfl | rfl <;> rfl
  have hb0 := below_alloc w (.cells #[.bool p, .slice a n c] 58)
  have hb1 := hb0.alloc (Nat.le_of_lt (by simp)) (.cells #[.bool false, .slice none 0 0] 58)
  have hb2 := hb1.alloc (Nat.le_of_lt (by simp; omega)) (.cells #[.bool p, .slice a n c] 58)
  have s0 := slot_kept (heap_alloc2_new w (.cells #[.bool p, .slice a n c] 58) (.cells #[.bool false, .slice none 0 0] 58)) (below_alloc _ (.cells #[.bool p, .slice a n c] 58))
  have s2 := heap_alloc3_new w (.cells #[.bool p, .slice a n c] 58) (.cells #[.bool false, .slice none 0 0] 58) (.cells #[.bool p, .slice a n c] 58)
  have hrd2 : RdI (((w.alloc (.cells #[.bool p, .slice a n c] 58)).alloc (.cells #[.bool false, .slice none 0 0] 58)).alloc (.cells #[.bool p, .slice a n c] 58)) al els := by
    intro ad had j u hu
    have h1 := hrd ad had j u hu
    rw [hb2.cell (World.block_lt_of_cell? _ _ h1)]
    exact h1
  have hrow : (((w.alloc (.cells #[.bool p, .slice a n c] 58)).alloc (.cells #[.bool false, .slice none 0 0] 58)).alloc (.cells #[.bool p, .slice a n c] 58)).ownsRow (w.heap.size + 2) 58 2 (.slice (some ⟨w.heap.size + 2, 0, none⟩) 1 1) 1 [.bool p, .slice a n c] :=
    ⟨rfl, Or.inr ⟨w.heap.size + 2, 1, #[.bool p, .slice a n c], rfl, Nat.le_refl _, s2, Nat.le_refl _, by decide, rfl, rfl⟩⟩
  obtain ⟨N, hN⟩ : ∃ N, 1 + nl = N := ⟨_, rfl⟩
  have HEL := Lib.hid hEl
  have HN := Lib.hid hN
  have HZ := Lib.hid hz
  have HCE := Lib.hid hcE
  have HOK := Lib.hid hEok
  have HNL := Lib.hid hnl
  have hNb : N ≤ 1001 := by omega
  have hn1 : 1 + nl ≤ 65536 := by omega
  clear hE hEl hz hcE hEok hnl hN hel hlen hA hrd
  go_enter Tryz.func100, Tryz.ntmps100
  go_wp2_with (at_builtin; refine wpList_append_ints _ rfl (.tmp 10) (.tmp 11) 161 rfl Tryz.underlying161 info_int (w.heap.size + 2) _ 1 [.bool p, .slice a n c] rfl hrow al nl cl els rfl HNL.out hnone hrd2 hones (by decide) hn1 (by simp) ?_; intro g cap w1 hown1 hgr1; rw [HN.out] at hown1; rw [HN.out])
  have hgr : (((w.alloc (.cells #[.bool p, .slice a n c] 58)).alloc (.cells #[.bool false, .slice none 0 0] 58)).alloc (.cells #[.bool p, .slice a n c] 58)).grownBy w1 (some (w.heap.size + 2)) := hgr1
  have hsz1 : w.heap.size + 3 ≤ w1.heap.size := by have := hgr.size; simpa using this
  have hbw : Below w.heap.size w w1 := hb2.trans (grown_below hgr (by simp; omega) (fun g' e => by cases e; omega))
  have s1 : w1.heap[w.heap.size + 1]? = some (.cells #[.bool false, .slice none 0 0] 58 (0, 0)) := by
    rw [hgr.block _ (by simp) (by simp)]; exact s0
  rw [HCE.out] at hown1
  have hrdE : RdI w1 (some ⟨g, 0, none⟩) E := by
    intro ad had j u hu
    cases had
    exact hown1.cells rfl j u hu
  have hglt : g < w1.heap.size := (hown1.lt g rfl).2
  have HRD := Lib.hid hrdE
  have HOK1 : Hid (∀ e ∈ E, EOk w1 m e) := by
    intro e he
    obtain ⟨a', n', c', h1, h2⟩ := HOK.out e he
    exact ⟨a', n', c', h1, h2.below hbw⟩
  clear hgr1 hgr hrow hrd2 s0 s2 hb0 hb1 hb2 hones HOK HCE hnone hown1 hrdE
  go_loopw [5, 6, 14] (fun vp vm ii wr => ∃ k : Nat, k ≤ N ∧ ii = .int .i64 k ∧ OwV w1.heap.size wr vp (pls (E.take k)) ∧ OwV w1.heap.size wr vm (mis (E.take k)) ∧ Below w1.heap.size w1 wr ∧ (∀ g', vp.ownBlock = some g' → vm.ownBlock ≠ some g'))
    (fun _ _ ii _ => N - (intOf ii).toNat)
  case atStart => exact ⟨0, Nat.zero_le _, rfl, OwV.nil _ _, OwV.nil _ _, Below.refl _ _, by simp [Value.ownBlock]⟩
  case round =>
    obtain ⟨k, hk, rfl, hOp, hOm, hbl, hdis⟩ := hrel
    by_cases hlt : k < N
    · have hkE : k < E.length := by rw [HEL.out, HN.out]; exact hlt
      obtain ⟨b, v, M, he⟩ : ∃ b v M, E.getD k (false, undef, 0) = (b, v, M) := ⟨_, _, _, rfl⟩
      have hmem : (b, v, M) ∈ E := by
        rw [← he, List.getD_eq_getElem?_getD, List.getElem?_eq_getElem hkE]; exact List.getElem_mem hkE
      obtain ⟨ak, nk, ck, hv, hNk⟩ := HOK1.out _ hmem
      simp only at hv
      subst hv
      obtain ⟨q0, q1⟩ := cel_get hkE
      rw [he] at q0 q1
      have c0 := HRD.out _ rfl _ _ q0
      have c1 := HRD.out _ rfl _ _ q1
      rw [addr_add_none, Nat.zero_add] at c0 c1
      have d0 : wr.cell? ⟨g, k * 2, none⟩ = some (.bool b) := by rw [hbl.cell (p := ⟨g, k * 2, none⟩) hglt]; exact c0
      have d1 : wr.cell? ⟨g, k * 2 + 1, none⟩ = some (.slice ak nk ck) := by rw [hbl.cell (p := ⟨g, k * 2 + 1, none⟩) hglt]; exact c1
      have hps := pls_snoc hkE he
      have hms := mis_snoc hkE he
      have hone : ∀ u ∈ [Value.slice ak nk ck], u.oneCell' = true := by intro u hu; rw [List.mem_singleton] at hu; subst hu; rfl
      have hpl := pls_len (E.take k)
      have hml := mis_len (E.take k)
      rw [List.length_take] at hpl hml
      have hpl2 : (pls (E.take k)).length + 1 ≤ 4294967296 := by omega
      have hml2 : (mis (E.take k)).length + 1 ≤ 4294967296 := by omega
      have HPS := Lib.hid hps
      have HMS := Lib.hid hms
      have HE := Lib.hid he
      have hbs := hbl.size
      clear q0 q1 c0 c1 hps hms he hpl hml hmem hNk
      cases b with
      | true =>
        have HPS' : Hid (pls (E.take (k + 1)) = pls (E.take k)) := by show _ = _; have := HPS.out; simpa using this
        have HMS' : Hid (mis (E.take (k + 1)) = mis (E.take k) ++ [.slice ak nk ck]) := by show _ = _; have := HMS.out; simpa using this
        clear HPS HMS
        go_wp2_with (at_builtin; refine wpList_append_vals _ rfl (.tmp 20) (.tmp 23) 85 rfl Tryz.underlying85 info_nat w1.heap.size u6 (mis (E.take k)) rfl ((hOm.alloc (.cells #[.bool true, .slice ak nk ck] 58)).alloc _) ⟨wr.heap.size + 1, 0, none⟩ 1 1 [.slice ak nk ck] rfl rfl (newv1_at _ _ _ _ (by simp)) hone hml2 (by simp; omega) ?_; intro vm2 w2 hOm2 hg2 hat2)
        have hbl' := hbl.alloc hbs (.cells #[.bool true, .slice ak nk ck] 58)
        have hOm' := hOm.alloc (.cells #[.bool true, .slice ak nk ck] 58)
        have hb12 : Below w1.heap.size w1 w2 := below_app hbl' hOm' (Nat.le_refl _) (by simp; omega) hg2
        have hOp2 : OwV w1.heap.size w2 u5 (pls (E.take k)) := ((hOp.alloc (.cells #[.bool true, .slice ak nk ck] 58)).alloc _).grown hg2 (fun g' e h => hdis g' e h)
        go_roundw
        case rel =>
          refine ⟨k + 1, by omega, by go_num, by rw [HPS'.out]; exact hOp2, by rw [HMS'.out]; exact hOm2, hb12, ?_⟩
          intro g' e1 e2
          rcases hat2 with h | h
          · exact hdis g' e1 (by rw [← h]; exact e2)
          · rw [h] at e2
            have := (hOp.lt g' e1).2
            simp at e2; omega
        case measure => simp [intOf]; omega
      | false =>
        have HPS' : Hid (pls (E.take (k + 1)) = pls (E.take k) ++ [.slice ak nk ck]) := by show _ = _; have := HPS.out; simpa using this
        have HMS' : Hid (mis (E.take (k + 1)) = mis (E.take k)) := by show _ = _; have := HMS.out; simpa using this
        clear HPS HMS
        go_wp2_with (at_builtin; refine wpList_append_vals _ rfl (.tmp 25) (.tmp 28) 85 rfl Tryz.underlying85 info_nat w1.heap.size u5 (pls (E.take k)) rfl ((hOp.alloc (.cells #[.bool false, .slice ak nk ck] 58)).alloc _) ⟨wr.heap.size + 1, 0, none⟩ 1 1 [.slice ak nk ck] rfl rfl (newv1_at _ _ _ _ (by simp)) hone hpl2 (by simp; omega) ?_; intro vp2 w2 hOp2 hg2 hat2)
        have hbl' := hbl.alloc hbs (.cells #[.bool false, .slice ak nk ck] 58)
        have hOp' := hOp.alloc (.cells #[.bool false, .slice ak nk ck] 58)
        have hb12 : Below w1.heap.size w1 w2 := below_app hbl' hOp' (Nat.le_refl _) (by simp; omega) hg2
        have hOm2 : OwV w1.heap.size w2 u6 (mis (E.take k)) := ((hOm.alloc (.cells #[.bool false, .slice ak nk ck] 58)).alloc _).grown hg2 (fun g' e h => hdis g' h e)
        go_roundw
        case rel =>
          refine ⟨k + 1, by omega, by go_num, by rw [HPS'.out]; exact hOp2, by rw [HMS'.out]; exact hOm2, hb12, ?_⟩
          intro g' e1 e2
          rcases hat2 with h | h
          · exact hdis g' (by rw [← h]; exact e1) e2
          · rw [h] at e1
            have := (hOm.lt g' e2).2
            simp at e1; omega
        case measure => simp [intOf]; omega
    · have hkN : k = N := by omega
      subst hkN
      have hall : E.take k = E := List.take_of_length_le (by rw [HEL.out, HN.out]; exact Nat.le_refl _)
      rw [hall] at hOp hOm
      have hbwr := hbw.trans (hbl.mono (by omega))
      have sr := slot_kept s1 hbl
      obtain ⟨lp, hp1, hp2, hp3, hp4, hp5⟩ := lists_of (w := wr) (m := m) ((E.filter fun e => !e.1).map (·.2)) (by
        intro e he
        obtain ⟨x, hx, rfl⟩ := List.mem_map.1 he
        obtain ⟨a', n', c', h1, h2⟩ := HOK1.out x (List.mem_filter.1 hx).1
        rw [h1]; exact h2.below hbl)
      obtain ⟨lm, hm1, hm2, hm3, hm4, hm5⟩ := lists_of (w := wr) (m := m) ((E.filter fun e => e.1).map (·.2)) (by
        intro e he
        obtain ⟨x, hx, rfl⟩ := List.mem_map.1 he
        obtain ⟨a', n', c', h1, h2⟩ := HOK1.out x (List.mem_filter.1 hx).1
        rw [h1]; exact h2.below hbl)
      simp only [List.map_map] at hp1 hp2 hp4 hp5 hm1 hm2 hm4 hm5
      have ep : (E.filter fun e => !e.1).map ((fun x => x.1) ∘ fun x => x.2) = pls E := rfl
      have em : (E.filter fun e => e.1).map ((fun x => x.1) ∘ fun x => x.2) = mis E := rfl
      have eps : ((E.filter fun e => !e.1).map ((fun x => x.2) ∘ fun x => x.2)).sum = psum E := rfl
      have ems : ((E.filter fun e => e.1).map ((fun x => x.2) ∘ fun x => x.2)).sum = msum E := rfl
      rw [ep] at hp1 hp2
      rw [em] at hm1 hm2
      rw [eps] at hp4 hp5
      rw [ems] at hm4 hm5
      obtain ⟨aP, cP, rfl, hP1, hP2, hP3⟩ := hOp.form
      obtain ⟨aM, cM, rfl, hM1, hM2, hM3⟩ := hOm.form
      have hB := pow_pos' B64_pos m
      have hlp : ((List.map (fun x : Bool × Value × Int => x.2) (E.filter fun e => !e.1)).length : Int) ≤ 1001 := by
        rw [List.length_map]
        have h1 := List.length_filter_le (fun e : Bool × Value × Int => !e.1) E
        have h2 := HEL.out
        have h3 := HN.out
        omega
      have hlm : ((List.map (fun x : Bool × Value × Int => x.2) (E.filter fun e => e.1)).length : Int) ≤ 1001 := by
        rw [List.length_map]
        have h1 := List.length_filter_le (fun e : Bool × Value × Int => e.1) E
        have h2 := HEL.out
        have h3 := HN.out
        omega
      have hB1 : B64 ^ (m + 1) = B64 ^ m * 18446744073709551616 := by rw [Int.pow_succ]; rfl
      have hs1 : sumv lp < B64 ^ (m + 1) := by
        have := Int.mul_le_mul_of_nonneg_right hlp (Int.le_of_lt hB)
        omega
      have hs2 : sumv lm < B64 ^ (m + 1) := by
        have := Int.mul_le_mul_of_nonneg_right hlm (Int.le_of_lt hB)
        omega
      have hpl := pls_len E
      have hml := mis_len E
      have hEl2 : E.length ≤ 1001 := by rw [HEL.out, HN.out]; exact hNb
      have HP := Lib.hid ((add_any aP (pls E).length cP (pls E) lp wr rfl hp1 hP1 hP2 hP3 hp2 (fun j => by have := hp3 j; unfold MaxW; omega) (by omega)).mono fun e w' hr => RetNum.retn (m := m + 1) hr hs1)
      have HM := fun w2 (hx : Below wr.heap.size wr w2) => (add_any aM (mis E).length cM (mis E) lm w2 rfl hm1 hM1 hM2 (hM3.below hx) (fun j hj => (hm2 j hj).below hx) (fun j => by have := hm3 j; unfold MaxW; omega) (by omega)).mono fun e w' hr => RetNum.retn (m := m + 1) hr hs2
      have HV : Hid (sumv lp - sumv lm = sg p A + zsum els) := by show _ = _; rw [hp4, hm4, HZ.out]
      have hsr := hbwr.size
      have hsr1 := hbl.size
      clear hp2 hp3 hp4 hp5 hm2 hm3 hm4 hm5 hlp hlm hB1 hs1 hs2 hP3 hM3 hOp hOm hp1 hm1 ep em eps ems hall hdis HOK1 HRD
      go_wp2_with fail
      refine HP.out.mono ?_
      rintro e w2 ⟨aX, nX, cX, rfl, hX, hb2⟩
      go_wp2_with fail
      refine (HM w2 hb2).mono ?_
      rintro e w3 ⟨aY, nY, cY, rfl, hY, hb3⟩
      go_wp2_with fail
      refine (diff_num (p := m + 1) (hX.num.below hb3) hY.num (Nat.le_refl _) (Nat.le_refl _) (by omega)).mono ?_
      rintro e w4 ⟨neg', aZ, nZ, cZ, NZ, rfl, hZ, hZv, hZc, hb4⟩
      have sz := slot_kept (slot_kept (slot_kept sr hb2) hb3) hb4
      obtain ⟨k0, k1, f0, f1⟩ := slot2 sz
      have hb5 := hbwr.trans (hb2.mono hbwr.size)
      replace hb5 := hb5.trans (hb3.mono hb5.size)
      replace hb5 := hb5.trans (hb4.mono hb5.size)
      have z2 := hb2.size
      have z3 := hb3.size
      obtain ⟨hend, hN, hfin⟩ := slot_end2 (neg' := neg') sz hb5 (Nat.le_add_right _ _) hZ (by omega)
      go_wp2_with fail
      refine bodyPost_ret (results_cell_row rfl _ _ (w.heap.size + 1) 58 _ (0, 0) _ rfl hend Tryz.underlying58 rfl (by kernel_rfl)) rfl ?_
      exact ⟨neg', _, _, _, _, rfl, hN, by rw [← HV.out, hZv], hZc, hfin⟩


theorem RetW.alloc {w : World} {o : Obj} {Z : Int} {m : Nat} {e : Ending} {w' : World} (h : RetW (w.alloc o) Z m e w') : RetW w Z m e w' := by
  obtain ⟨neg, a, n, c, N, h1, h2, h3, h4, h5⟩ := h
  exact ⟨neg, a, n, c, N, h1, h2.base (by simp), h3, h4, (below_alloc w o).trans (h5.mono (by simp))⟩

theorem rdi_new (w : World) (l : Els) (t : TypeId) (g : Nat) (hg : w.heap.size = g) : RdI (w.alloc (.cells (cel l).toArray t)) (some ⟨g, 0, none⟩) l := by
  subst hg
  intro ad had j u hu
  cases had
  rw [addr_add_none, Nat.zero_add, World.cell?_alloc_new, List.getElem?_toArray]
  exact hu

theorem addw1_num {w : World} (p q : Bool) {a : Option Addr} {n c : Nat} {A : Int} {m : Nat} {a' : Option Addr} {n' c' : Nat} {B : Int} {t : TypeId} {g : Nat} (hg : w.heap.size = g) (hA : Num w (.slice a n c) A m) (hB : Num w (.slice a' n' c') B m) (hm : m ≤ 1000) :
    Calls Tryz.prog 100 #[.agg #[.bool p, .slice a n c], .slice (some ⟨g, 0, none⟩) 1 1] (w.alloc (.cells #[.bool q, .slice a' n' c'] t)) fun e w' => RetW w (sg p A + sg q B) (m + 1) e w' := by
  have hb := below_alloc w (.cells #[.bool q, .slice a' n' c'] t)
  have hr : RdI (w.alloc (.cells #[.bool q, .slice a' n' c'] t)) (some ⟨g, 0, none⟩) [(q, .slice a' n' c', B)] := rdi_new w [(q, .slice a' n' c', B)] t g hg
  refine (addw_num p (hA.below hb) (some ⟨g, 0, none⟩) 1 1 [(q, .slice a' n' c', B)] rfl (fun h => by cases h) hr ?_ (by simp) hm).mono ?_
  · intro e he
    rw [List.mem_singleton] at he
    subst he
    exact ⟨a', n', c', rfl, hB.below hb⟩
  · intro e w' h
    have h2 := h.alloc
    simpa [zsum] using h2

theorem text_num {w : World} {u : Value} {N : Int} {m : Nat} (h : Num w u N m) (hm : m ≤ 1000) (hN : N < 10000000000000000000) :
    Calls Tryz.prog 43 #[u] w fun e w' => RetV w (.string (strOfNums (txt 19 N))) e w' := by
  obtain ⟨a, n, c, l, rfl, h1, h2, h3, h4, h5, rfl, h7⟩ := h.open
  exact text_small a n c l w h1 h2 h3 h4 h5 (by unfold MaxW; omega) hN

set_option maxRecDepth 100000 in
set_option maxHeartbeats 400000 in
theorem textw_neg {w : World} {a : Option Addr} {n c : Nat} {N : Int} {m : Nat} (h : Num w (.slice a n c) N m) (hm : m ≤ 1000) (h0 : N ≠ 0) (hN : N < 10000000000000000000) :
    Calls Tryz.prog 82 #[.agg #[.bool true, .slice a n c]] w fun e w' => RetV w (.string (⟨#[45]⟩ ++ strOfNums (txt 19 N))) e w' := by
  have hb0 := below_alloc w (.cells #[.bool true, .slice a n c] 58)
  have s0 := heap_alloc_new w (.cells #[.bool true, .slice a n c] 58)
  have hc : cmpI (sg true N) 0 = -1 := cmpI_lt (by have := h.nonneg; rw [sg_true]; omega)
  have HT := fun w1 (hx : Below w.heap.size w w1) => text_num (h.below hx) hm hN
  obtain ⟨T, hT⟩ : ∃ T, T = strOfNums (txt 19 N) := ⟨_, rfl⟩
  have hT2 : T.size ≤ 19 := by
    rw [hT]
    show (List.map (fun n : Int => UInt8.ofNat n.toNat) (txt 19 N)).toArray.size ≤ 19
    rw [List.size_toArray, List.length_map]
    unfold txt
    split
    · decide
    · rw [List.length_drop, dg_length]; omega
  rw [← hT] at HT ⊢
  clear hT hN h0
  go_enter Tryz.func82, Tryz.ntmps82
  go_wp2_with fail
  refine (sign_num true (h.below hb0) (by omega)).mono ?_
  rintro e w1 ⟨rfl, hb1⟩
  rw [hc]
  obtain ⟨k0, k1, f0, f1⟩ := slot2 (slot_kept s0 hb1)
  have hbw := hb0.trans (hb1.mono hb0.size)
  go_wp2_with fail
  refine (HT _ hbw).mono ?_
  rintro e w2 ⟨rfl, hb2⟩
  go_wp2_with fail
  trace_state
  go_ret
  exact ⟨rfl, hbw.trans (hb2.mono hbw.size)⟩

end Go.Proofs.YtfanhllcoaondaaGreatDoor

namespace Go.Proofs.YtfanhllcoaondaaGreatDoor
open Go.RowKit

def prodl : List Int → Int
  | [] => 1
  | x :: l => x * prodl l
theorem prodl_append (l m : List Int) : prodl (l ++ m) = prodl l * prodl m := by
  induction l with
  | nil => simp [prodl]
  | cons x l ih => rw [List.cons_append, prodl, prodl, ih, Int.mul_assoc]
theorem prodl_halves (l : List Int) (h : Nat) : prodl (l.take h) * prodl (l.drop h) = prodl l := by rw [← prodl_append, List.take_append_drop]

/-- Every value of a row is a number. -/
def Nums (w : World) (m : Nat) (vs : List Value) (Ns : List Int) : Prop := vs.length = Ns.length ∧ ∀ j, j < vs.length → ∃ a n c, vs.getD j undef = .slice a n c ∧ Num w (.slice a n c) (Ns.getD j 0) m
theorem Nums.below {w w' : World} {m : Nat} {vs : List Value} {Ns : List Int} (h : Nums w m vs Ns) (hb : Below w.heap.size w w') : Nums w' m vs Ns := by
  refine ⟨h.1, fun j hj => ?_⟩
  obtain ⟨a, n, c, e, k⟩ := h.2 j hj
  exact ⟨a, n, c, e, k.below hb⟩
theorem getD_take' {α : Type} (l : List α) (d : α) {k j : Nat} (h : j < k) : (l.take k).getD j d = l.getD j d := by
  rw [List.getD_eq_getElem?_getD, List.getElem?_take, if_pos h, List.getD_eq_getElem?_getD]
theorem getD_drop' {α : Type} (l : List α) (d : α) (k j : Nat) : (l.drop k).getD j d = l.getD (k + j) d := by
  rw [List.getD_eq_getElem?_getD, List.getElem?_drop, List.getD_eq_getElem?_getD]
theorem Nums.take {w : World} {m : Nat} {vs : List Value} {Ns : List Int} (h : Nums w m vs Ns) (k : Nat) : Nums w m (vs.take k) (Ns.take k) := by
  refine ⟨by rw [List.length_take, List.length_take, h.1], fun j hj => ?_⟩
  rw [List.length_take] at hj
  rw [getD_take' _ _ (by omega), getD_take' _ _ (by omega)]
  exact h.2 j (by omega)
theorem Nums.drop {w : World} {m : Nat} {vs : List Value} {Ns : List Int} (h : Nums w m vs Ns) (k : Nat) : Nums w m (vs.drop k) (Ns.drop k) := by
  refine ⟨by rw [List.length_drop, List.length_drop, h.1], fun j hj => ?_⟩
  rw [List.length_drop] at hj
  rw [getD_drop', getD_drop']
  exact h.2 (k + j) (by omega)
theorem RdRow.drop {w : World} {b o : Nat} {vs : List Value} (h : RdRow w (some ⟨b, o, none⟩) vs) (k : Nat) : RdRow w (some ⟨b, o + k, none⟩) (vs.drop k) := by
  rcases h with rfl | ⟨b', o', e, h⟩
  · exact Or.inl (by simp)
  · cases e
    refine Or.inr ⟨b, o + k, rfl, fun j v hv => ?_⟩
    rw [List.getElem?_drop] at hv
    rw [Nat.add_assoc]
    exact h _ v hv
theorem RdRow.take' {w : World} {ao : Option Addr} {vs : List Value} (h : RdRow w ao vs) (k : Nat) : RdRow w ao (vs.take k) := by
  rcases h with rfl | ⟨b, off, rfl, h⟩
  · exact Or.inl (by simp)
  · refine Or.inr ⟨b, off, rfl, fun j v hv => h j v ?_⟩
    rw [List.getElem?_take] at hv
    split at hv
    · exact hv
    · cases hv

/-- What whole.product returns. -/
def RetPr (w : World) (N : Int) (n M : Nat) (e : Ending) (w' : World) : Prop :=
  ∃ a k c, e = .returned (.slice a k c) ∧ Num w' (.slice a k c) N M ∧ (2 ≤ n → NewN w.heap.size w' (.slice a k c) N M) ∧ Below w.heap.size w w'

end Go.Proofs.YtfanhllcoaondaaGreatDoor

namespace Go.Proofs.YtfanhllcoaondaaGreatDoor
open Go.RowKit

/-- The sign of a product. -/
def negf (p : Bool) (l : Els) : Bool := l.foldl (fun b e => !(b == e.1)) p
def zprod (l : Els) : Int := prodl (l.map fun e => sg e.1 e.2.2)
theorem sg_mul (p b : Bool) (A N : Int) : sg (!(p == b)) (A * N) = sg p A * sg b N := by
  cases p <;> cases b <;> simp [sg, Int.neg_mul, Int.mul_neg]
theorem negf_prod (p : Bool) (A : Int) (l : Els) : sg (negf p l) (A * prodl (l.map (·.2.2))) = sg p A * zprod l := by
  induction l generalizing p A with
  | nil => simp [negf, zprod, prodl]
  | cons e l ih =>
    have h := ih (!(p == e.1)) (A * e.2.2)
    rw [sg_mul, Int.mul_assoc, Int.mul_assoc] at h
    simp only [zprod, List.map_cons, prodl] at h ⊢
    exact h
theorem negf_snoc {p : Bool} {l : Els} {k : Nat} (hk : k < l.length) {b : Bool} {v : Value} {N : Int} (he : l.getD k (false, undef, 0) = (b, v, N)) : negf p (l.take (k + 1)) = !(negf p (l.take k) == b) := by
  rw [take_snoc hk, he, negf, List.foldl_append]; rfl
theorem mags_snoc {l : Els} {k : Nat} (hk : k < l.length) {b : Bool} {v : Value} {N : Int} (he : l.getD k (false, undef, 0) = (b, v, N)) : (l.take (k + 1)).map (·.2.1) = (l.take k).map (·.2.1) ++ [v] := by
  rw [take_snoc hk, he, List.map_append]; rfl

end Go.Proofs.YtfanhllcoaondaaGreatDoor

namespace Go.Proofs.YtfanhllcoaondaaGreatDoor
open Go.RowKit


/-- The decimal text of an integer. -/
def tw (Z : Int) : ByteArray := if Z < 0 then ⟨#[45]⟩ ++ strOfNums (dec (-Z)) else strOfNums (dec Z)
theorem dec_small {N : Int} (h0 : 0 ≤ N) (hN : N < B64 ^ 1) : (strOfNums (dec N)).size ≤ 21 := by
  rw [dec_size]
  have e : B64 ^ 1 < 10 ^ 20 := by decide
  exact dec_len h0 (by omega)

set_option maxRecDepth 100000 in
set_option maxHeartbeats 1000000 in
theorem textw_num {w : World} (neg : Bool) {a : Option Addr} {n c : Nat} {N : Int} (h : Num w (.slice a n c) N 1) :
    Calls Tryz.prog 82 #[.agg #[.bool neg, .slice a n c]] w fun e w' => RetV w (.string (tw (sg neg N))) e w' := by
  have hb0 := below_alloc w (.cells #[.bool neg, .slice a n c] 58)
  have s0 := heap_alloc_new w (.cells #[.bool neg, .slice a n c] 58)
  have hn0 := h.nonneg
  have HT := fun w1 (hx : Below w.heap.size w w1) => text_any (h.below hx) (by decide) (by decide)
  have HSG := Lib.hid (sign_num neg (h.below hb0) (by decide))
  have hsz := dec_small hn0 h.lt
  rcases Int.lt_or_le (sg neg N) 0 with hz | hz
  · have hc : cmpI (sg neg N) 0 = -1 := cmpI_lt hz
    have hneg : neg = true := by
      cases neg with
      | true => rfl
      | false => rw [sg_false] at hz; omega
    have htw : tw (sg neg N) = ⟨#[45]⟩ ++ strOfNums (dec N) := by rw [tw, if_pos hz, hneg, sg_true, Int.neg_neg]
    obtain ⟨T, hT⟩ : ∃ T, T = strOfNums (dec N) := ⟨_, rfl⟩
    rw [← hT] at HT htw hsz
    rw [htw]
    rw [hc] at HSG
    clear hT hz hc htw hneg h
    go_enter Tryz.func82, Tryz.ntmps82
    go_wp2_with fail
    refine HSG.out.mono ?_
    rintro e w1 ⟨rfl, hb1⟩
    obtain ⟨k0, k1, f0, f1⟩ := slot2 (slot_kept s0 hb1)
    have hbw := hb0.trans (hb1.mono hb0.size)
    go_wp2_with fail
    refine (HT _ hbw).mono ?_
    rintro e w2 ⟨rfl, hb2⟩
    go_wp2_with fail
    go_ret
    exact ⟨rfl, hbw.trans (hb2.mono hbw.size)⟩
  · obtain ⟨s, hs⟩ : ∃ s, s = cmpI (sg neg N) 0 := ⟨_, rfl⟩
    have hs0 : ¬ s < 0 := by
      rw [hs]
      rcases Int.lt_or_eq_of_le hz with h | h
      · rw [cmpI_gt h]; decide
      · rw [cmpI_eq h.symm]; decide
    have hval : sg neg N = N := by
      cases neg with
      | true => rw [sg_true] at hz ⊢; omega
      | false => rfl
    have htw : tw (sg neg N) = strOfNums (dec N) := by rw [tw, if_neg (by omega), hval]
    obtain ⟨T, hT⟩ : ∃ T, T = strOfNums (dec N) := ⟨_, rfl⟩
    rw [← hT] at HT htw hsz
    rw [htw]
    rw [← hs] at HSG
    clear hT hz hs htw hval h
    go_enter Tryz.func82, Tryz.ntmps82
    go_wp2_with fail
    refine HSG.out.mono ?_
    rintro e w1 ⟨rfl, hb1⟩
    obtain ⟨k0, k1, f0, f1⟩ := slot2 (slot_kept s0 hb1)
    have hbw := hb0.trans (hb1.mono hb0.size)
    go_wp2_with fail
    refine (HT _ hbw).mono ?_
    rintro e w2 ⟨rfl, hb2⟩
    go_wp2_with fail
    go_ret
    exact ⟨rfl, hbw.trans (hb2.mono hbw.size)⟩

theorem sg_scale (neg : Bool) (N P : Int) : sg neg (N * P) = sg neg N * P := by cases neg <;> simp [sg, Int.neg_mul]

set_option maxRecDepth 100000 in
set_option maxHeartbeats 2000000 in
theorem shlw_num {w : World} (neg : Bool) {a : Option Addr} {n c : Nat} {N : Int} {m p : Nat} (k : Nat) (h : Num w (.slice a n c) N m) (hk : k ≤ 16777216) (hp : m + k / 64 + 1 ≤ p) (hm : m ≤ 1000) :
    Calls Tryz.prog 140 #[.agg #[.bool neg, .slice a n c], .int .i64 k] w fun e w' => RetW w (sg neg N * 2 ^ k) p e w' := by
  have hb0 := below_alloc w (.cells #[.bool neg, .slice a n c] 58)
  have hb1 := hb0.alloc (Nat.le_of_lt (by simp)) (.cells #[.bool false, .slice none 0 0] 58)
  have hbw0 : Below w.heap.size w ((w.alloc (.cells #[.bool neg, .slice a n c] 58)).alloc (.cells #[.bool false, .slice none 0 0] 58)).drew := bdn hb1 1
  have s0 : ((w.alloc (.cells #[.bool neg, .slice a n c] 58)).alloc (.cells #[.bool false, .slice none 0 0] 58)).drew.heap[w.heap.size + 1]? = some (.cells #[.bool false, .slice none 0 0] 58 (0, 0)) := heap_alloc2_new w _ _
  have s1 : ((w.alloc (.cells #[.bool neg, .slice a n c] 58)).alloc (.cells #[.bool false, .slice none 0 0] 58)).drew.heap[w.heap.size]? = some (.cells #[.bool neg, .slice a n c] 58 (0, 0)) := heap_alloc2_old w _ _
  have hsz0 : ((w.alloc (.cells #[.bool neg, .slice a n c] 58)).alloc (.cells #[.bool false, .slice none 0 0] 58)).drew.heap.size = w.heap.size + 2 := by show ((w.alloc _).alloc _).heap.size = _; simp
  have hk1 : ¬ (k : Int) < 0 := by omega
  have hk2 : ¬ (16777216 : Int) < (k : Int) := by omega
  have HSH := Lib.hid (shl_num (p := p) k (h.below hbw0) hk hp (by omega))
  have HZ := Lib.hid (sg_scale neg N (2 ^ k))
  have HS := Lib.hid hsz0
  clear hsz0 h hb0 hb1
  go_enter Tryz.func140, Tryz.ntmps140
  go_wp2_with fail
  go_region_with (first
    | (go_at_call 155; refine HSH.out.mono ?_; rintro e w2 ⟨aX, nX, cX, rfl, hX, hb2⟩; have s2 := slot_kept s0 hb2; have t2 := slot_kept s1 hb2; obtain ⟨t0, t1, tf0, tf1⟩ := slot2 t2)
    | (go_at_call 135; refine (signed_num neg hX).mono ?_; rintro e w3 ⟨neg', rfl, hs, hz, hb3⟩; have s3 := slot_kept s2 hb3; obtain ⟨k0, k1, f0, f1⟩ := slot2 s3))
  all_goals
    have hS := HS.out
    have hbw := hbw0.trans (hb2.mono (by omega))
    replace hbw := hbw.trans (hb3.mono hbw.size)
    obtain ⟨hend, hN, hfin⟩ := slot_end2 (neg' := neg') s3 hbw (Nat.le_add_right _ _) (hX.below hb3) (by omega)
    go_wp2_with fail
    refine bodyPost_ret (results_cell_row rfl _ _ (w.heap.size + 1) 58 _ (0, 0) _ rfl hend Tryz.underlying58 rfl (by kernel_rfl)) rfl ?_
    exact ⟨neg', _, _, _, _, rfl, hN, by rw [hs, HZ.out], hz, hfin⟩


theorem rdi_one {w : World} {g : Nat} {q : Bool} {a : Option Addr} {n c : Nat} {B : Int} (h0 : w.cell? ⟨g, 0, none⟩ = some (.bool q)) (h1 : w.cell? ⟨g, 1, none⟩ = some (.slice a n c)) : RdI w (some ⟨g, 0, none⟩) [(q, .slice a n c, B)] := by
  intro ad had j u hu
  cases had
  match j, hu with
  | 0, hu =>
    have e : u = .bool q := by simpa [cel] using hu.symm
    rw [e]; exact h0
  | 1, hu =>
    have e : u = .slice a n c := by simpa [cel] using hu.symm
    rw [e]; exact h1
  | j + 2, hu => simp [cel] at hu

theorem addw1_in {w : World} (p q : Bool) {a : Option Addr} {n c : Nat} {A : Int} {m : Nat} {a' : Option Addr} {n' c' : Nat} {B : Int} {g : Nat} (h0 : w.cell? ⟨g, 0, none⟩ = some (.bool q)) (h1 : w.cell? ⟨g, 1, none⟩ = some (.slice a' n' c')) (hA : Num w (.slice a n c) A m) (hB : Num w (.slice a' n' c') B m) (hm : m ≤ 1000) :
    Calls Tryz.prog 100 #[.agg #[.bool p, .slice a n c], .slice (some ⟨g, 0, none⟩) 1 1] w fun e w' => RetW w (sg p A + sg q B) (m + 1) e w' := by
  refine (addw_num p hA (some ⟨g, 0, none⟩) 1 1 [(q, .slice a' n' c', B)] rfl (fun h => by cases h) (rdi_one h0 h1) ?_ (by simp) hm).mono ?_
  · intro e he
    rw [List.mem_singleton] at he
    subst he
    exact ⟨a', n', c', rfl, hB⟩
  · intro e w' h
    simpa [zsum] using h
theorem new_cell {w : World} {x y : Value} {t : TypeId} : (w.alloc (.cells #[x, y] t)).cell? ⟨w.heap.size, 0, none⟩ = some x ∧ (w.alloc (.cells #[x, y] t)).cell? ⟨w.heap.size, 1, none⟩ = some y := by
  constructor <;> rw [World.cell?_alloc_new] <;> rfl

theorem cell_after {w w' : World} {g j : Nat} {x : Value} (hb : Below w.heap.size w w') (h : w.cell? ⟨g, j, none⟩ = some x) : w'.cell? ⟨g, j, none⟩ = some x := by
  rw [hb.cell (p := ⟨g, j, none⟩) (World.block_lt_of_cell? (a := ⟨g, j, none⟩) _ h)]; exact h
theorem sign_square {v : Int} : cmpI (v * v) 0 = cmpI v 0 * cmpI v 0 := by
  rcases Int.lt_trichotomy v 0 with h | h | h
  · have : 0 < v * v := Int.mul_pos_of_neg_of_neg h h
    rw [cmpI_lt h, cmpI_gt this]; rfl
  · subst h; rfl
  · have : 0 < v * v := Int.mul_pos h h
    rw [cmpI_gt h, cmpI_gt this]; rfl

end Go.Proofs.YtfanhllcoaondaaGreatDoor
