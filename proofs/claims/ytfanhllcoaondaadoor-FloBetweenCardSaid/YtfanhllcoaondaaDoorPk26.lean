/-
  TellsB: What WholeTells asks besides: whole.Text of forty words, the reference's Int, sums and products of lists in variables.
  SlotsT: A region that draws its order and ends with a forced tail, by what its slots hold, where the kept fact may speak of the slots, too; two new variables that lie apart.
-/
import Derived.Test.YtfanhllcoaondaaDoorPk25
import Derived.Test.YtfanhllcoaondaaDoorPk20
import Derived.Test.YtfanhllcoaondaaDoorPk21
import Derived.Test.YtfanhllcoaondaaDoorPk24

namespace Go.Proofs.YtfanhllcoaondaaDoor
open Go.RowKit

theorem ten_40 {A : Int} (h : A < B64 ^ 40) : A < 10 ^ 800 := by
  have e : B64 ^ 40 < 10 ^ 800 := by decide +kernel
  omega
theorem dec_40 {N : Int} (h0 : 0 ≤ N) (hN : N < B64 ^ 40) : (strOfNums (dec N)).size ≤ 801 := by
  rw [dec_size]
  have := dec_len (n := 800) h0 (ten_40 hN)
  omega
set_option maxRecDepth 100000 in
set_option maxHeartbeats 1000000 in
theorem textw_any {w : World} (neg : Bool) {a : Option Addr} {n c : Nat} {N : Int} (h : Num w (.slice a n c) N 40) :
    Calls Tryd.prog 26 #[.agg #[.bool neg, .slice a n c]] w fun e w' => RetV w (.string (tw (sg neg N))) e w' := by
  have hb0 := below_alloc w (.cells #[.bool neg, .slice a n c] 28)
  have s0 := heap_alloc_new w (.cells #[.bool neg, .slice a n c] 28)
  have hn0 := h.nonneg
  have HT := fun w1 (hx : Below w.heap.size w w1) => text_any (h.below hx) (by decide) (by decide)
  have HSG := Lib.hid (sign_num neg (h.below hb0) (by decide))
  have hsz := dec_40 hn0 h.lt
  rcases Int.lt_or_le (sg neg N) 0 with hz | hz
  · have hc : cmpI (sg neg N) 0 = -1 := cmpI_lt hz
    have hneg : neg = true := by
      cases neg with
      | true => rfl
      | false => rw [sg_false] at hz; omega
    have htw : tw (sg neg N) = ⟨#[45]⟩ ++ strOfNums (dec N) := by rw [tw, if_pos hz, hneg, sg_true, Int.neg_neg]
    obtain ⟨T, hT⟩ : ∃ T, T = strOfNums (dec N) := ⟨_, rfl⟩
    rw [← hT] at HT htw hsz
    rw [htw]
    rw [hc] at HSG
    clear hT hz hc htw hneg h
    go_enter Tryd.func26, Tryd.ntmps26
    go_wp2_with fail
    refine HSG.out.mono ?_
    rintro e w1 ⟨rfl, hb1⟩
    obtain ⟨k0, k1, f0, f1⟩ := slot2 (slot_kept s0 hb1)
    have hbw := hb0.trans (hb1.mono hb0.size)
    go_wp2_with fail
    refine (HT _ hbw).mono ?_
    rintro e w2 ⟨rfl, hb2⟩
    go_wp2_with fail
    go_ret
    exact ⟨rfl, hbw.trans (hb2.mono hbw.size)⟩
  · obtain ⟨s, hs⟩ : ∃ s, s = cmpI (sg neg N) 0 := ⟨_, rfl⟩
    have hs0 : ¬ s < 0 := by
      rw [hs]
      rcases Int.lt_or_eq_of_le hz with h | h
      · rw [cmpI_gt h]; decide
      · rw [cmpI_eq h.symm]; decide
    have hval : sg neg N = N := by
      cases neg with
      | true => rw [sg_true] at hz ⊢; omega
      | false => rfl
    have htw : tw (sg neg N) = strOfNums (dec N) := by rw [tw, if_neg (by omega), hval]
    obtain ⟨T, hT⟩ : ∃ T, T = strOfNums (dec N) := ⟨_, rfl⟩
    rw [← hT] at HT htw hsz
    rw [htw]
    rw [← hs] at HSG
    clear hT hz hs htw hval h
    go_enter Tryd.func26, Tryd.ntmps26
    go_wp2_with fail
    refine HSG.out.mono ?_
    rintro e w1 ⟨rfl, hb1⟩
    obtain ⟨k0, k1, f0, f1⟩ := slot2 (slot_kept s0 hb1)
    have hbw := hb0.trans (hb1.mono hb0.size)
    go_wp2_with fail
    refine (HT _ hbw).mono ?_
    rintro e w2 ⟨rfl, hb2⟩
    go_wp2_with fail
    go_ret
    exact ⟨rfl, hbw.trans (hb2.mono hbw.size)⟩


set_option maxRecDepth 100000 in
set_option maxHeartbeats 1000000 in
/-- The document's dyad of an int. -/
theorem rint_num (v : Int) (w : World) (h0 : -9223372036854775808 ≤ v) (h1 : v ≤ 9223372036854775807) :
    Calls Tryd.prog 31 #[.int .i64 v] w fun e w' => RetZ w v 2 64 e w' := by
  obtain ⟨w1, hw1⟩ : ∃ w1, w.alloc (.cells #[.bool false, .slice none 0 0, .int .i64 0] 31) = w1 := ⟨_, rfl⟩
  have hb1 : Below w.heap.size w w1 := hw1 ▸ below_alloc w _
  have hc1 : w1.heap[w.heap.size]? = some (.cells #[.bool false, .slice none 0 0, .int .i64 0] 31 (0, 0)) := hw1 ▸ heap_alloc_new w _
  obtain ⟨x, hx⟩ : ∃ x : Int, x = if v < 0 then -v else v := ⟨_, rfl⟩
  have hx0 : 0 ≤ x := by rw [hx]; split <;> omega
  have hx1 : x ≤ 18446744073709551615 := by rw [hx]; split <;> omega
  have hsx : sg (decide (v < 0)) x * 2 ^ 0 = v := by rw [hx]; by_cases h : v < 0 <;> simp [sg, h]
  have HSX := Lib.hid hsx
  obtain ⟨y, hy⟩ : ∃ y, IntKind.u64.wrap v = y := ⟨_, rfl⟩
  have hyx : v < 0 → IntKind.u64.wrap (-y) = x := by
    intro h; rw [hx, if_pos h, ← hy, IntKind.wrap_u64, IntKind.wrap_u64]; omega
  have hyx2 : ¬ v < 0 → y = x := by
    intro h; rw [hx, if_neg h, ← hy, IntKind.wrap_u64]; omega
  clear hx hsx
  by_cases hv : v < 0
  · have hw := hyx hv
    clear hyx hyx2
    rw [show decide (v < 0) = true by simpa using hv] at HSX
    go_enter Tryd.func31, Tryd.ntmps31
    go_wp2_with fail
    refine (small_num x _ hx0 hx1).mono ?_
    rintro e w2 ⟨a1, n1, c1', rfl, h1, hb2⟩
    go_wp2_with fail
    refine (rmake_num true 0 h1 (by decide) (by decide)).mono ?_
    rintro e w8 ⟨pR, aR, nR, cR, ER, rfl, hr, hb8⟩
    have hblk := slot_kept (slot_kept hc1 hb2) hb8
    obtain ⟨⟨z0, z1, z2⟩, f0, f1, f2⟩ := slot3 hblk
    have hend := slot3_set (u := .bool pR) (v := .slice aR nR cR) (s := .int .i64 (ER : Int)) hblk
    have hon := slot3_only (w := w8) (g := w.heap.size) (.bool pR) (.slice aR nR cR) (.int .i64 (ER : Int))
    have hr' := ((hr.var hblk hon).eq HSX.out).mono (Nat.le_refl _) (by decide : 0 + 32 * 2 ≤ 64)
    have hbw2 := hb1.trans (hb2.mono hb1.size)
    have hbz := hbw2.trans (hb8.mono hbw2.size)
    have HR : Hid (RetZ w v 2 64 (.returned (.agg #[.bool pR, .slice aR nR cR, .int .i64 (ER : Int)])) (((w8.setCell ⟨w.heap.size, 0, none⟩ (.bool pR)).setCell ⟨w.heap.size, 1, none⟩ (.slice aR nR cR)).setCell ⟨w.heap.size, 2, none⟩ (.int .i64 (ER : Int)))) :=
      Lib.hid ⟨pR, aR, nR, cR, ER, rfl, hr', hbz.trans (hon.below (Nat.le_refl _) hbz.size)⟩
    clear hr hr' hbw2 hbz hon
    go_wp2_with fail
    exact bodyPost_ret (results_cell_row rfl _ _ w.heap.size 31 _ (0, 0) _ rfl hend Tryd.underlying31 rfl (by kernel_rfl)) rfl HR.out
  · have hw := hyx2 hv
    clear hyx hyx2
    subst hw
    rw [show decide (v < 0) = false by simpa using hv] at HSX
    go_enter Tryd.func31, Tryd.ntmps31
    go_wp2_with fail
    refine (small_num y _ hx0 hx1).mono ?_
    rintro e w2 ⟨a1, n1, c1', rfl, h1, hb2⟩
    go_wp2_with fail
    refine (rmake_num false 0 h1 (by decide) (by decide)).mono ?_
    rintro e w8 ⟨pR, aR, nR, cR, ER, rfl, hr, hb8⟩
    have hblk := slot_kept (slot_kept hc1 hb2) hb8
    obtain ⟨⟨z0, z1, z2⟩, f0, f1, f2⟩ := slot3 hblk
    have hend := slot3_set (u := .bool pR) (v := .slice aR nR cR) (s := .int .i64 (ER : Int)) hblk
    have hon := slot3_only (w := w8) (g := w.heap.size) (.bool pR) (.slice aR nR cR) (.int .i64 (ER : Int))
    have hr' := ((hr.var hblk hon).eq HSX.out).mono (Nat.le_refl _) (by decide : 0 + 32 * 2 ≤ 64)
    have hbw2 := hb1.trans (hb2.mono hb1.size)
    have hbz := hbw2.trans (hb8.mono hbw2.size)
    have HR : Hid (RetZ w v 2 64 (.returned (.agg #[.bool pR, .slice aR nR cR, .int .i64 (ER : Int)])) (((w8.setCell ⟨w.heap.size, 0, none⟩ (.bool pR)).setCell ⟨w.heap.size, 1, none⟩ (.slice aR nR cR)).setCell ⟨w.heap.size, 2, none⟩ (.int .i64 (ER : Int)))) :=
      Lib.hid ⟨pR, aR, nR, cR, ER, rfl, hr', hbz.trans (hon.below (Nat.le_refl _) hbz.size)⟩
    clear hr hr' hbw2 hbz hon
    go_wp2_with fail
    exact bodyPost_ret (results_cell_row rfl _ _ w.heap.size 31 _ (0, 0) _ rfl hend Tryd.underlying31 rfl (by kernel_rfl)) rfl HR.out

/-- A row of two integers of the call's own. -/
def IsRow2 (p : Bool) (a : Option Addr) (n c : Nat) (q : Bool) (a2 : Option Addr) (n2 c2 : Nat) (v : Value) (w : World) : Prop := ∃ b, v = .slice (some ⟨b, 0, none⟩) 2 2 ∧ w.cell? ⟨b, 0, none⟩ = some (.bool p) ∧ w.cell? ⟨b, 1, none⟩ = some (.slice a n c) ∧ w.cell? ⟨b, 2, none⟩ = some (.bool q) ∧ w.cell? ⟨b, 3, none⟩ = some (.slice a2 n2 c2)
theorem IsRow2.keeps (p : Bool) (a : Option Addr) (n c : Nat) (q : Bool) (a2 : Option Addr) (n2 c2 : Nat) : Keeps (IsRow2 p a n c q a2 n2 c2) := fun _ _ _ hb ⟨b, h1, h2, h3, h4, h5⟩ => ⟨b, h1, cell_after hb h2, cell_after hb h3, cell_after hb h4, cell_after hb h5⟩
theorem new_cell4 {w : World} {x y z u : Value} {t : TypeId} : (w.alloc (.cells #[x, y, z, u] t)).cell? ⟨w.heap.size, 0, none⟩ = some x ∧ (w.alloc (.cells #[x, y, z, u] t)).cell? ⟨w.heap.size, 1, none⟩ = some y ∧ (w.alloc (.cells #[x, y, z, u] t)).cell? ⟨w.heap.size, 2, none⟩ = some z ∧ (w.alloc (.cells #[x, y, z, u] t)).cell? ⟨w.heap.size, 3, none⟩ = some u := by
  refine ⟨?_, ?_, ?_, ?_⟩ <;> rw [World.cell?_alloc_new] <;> rfl
theorem rdi_two {w : World} {g : Nat} {q r : Bool} {a a2 : Option Addr} {n c n2 c2 : Nat} {B C : Int} (h0 : w.cell? ⟨g, 0, none⟩ = some (.bool q)) (h1 : w.cell? ⟨g, 1, none⟩ = some (.slice a n c)) (h2 : w.cell? ⟨g, 2, none⟩ = some (.bool r)) (h3 : w.cell? ⟨g, 3, none⟩ = some (.slice a2 n2 c2)) : RdI w (some ⟨g, 0, none⟩) [(q, .slice a n c, B), (r, .slice a2 n2 c2, C)] := by
  intro ad had j u hu
  cases had
  match j, hu with
  | 0, hu =>
    have e : u = .bool q := by simpa [cel] using hu.symm
    rw [e]; exact h0
  | 1, hu =>
    have e : u = .slice a n c := by simpa [cel] using hu.symm
    rw [e]; exact h1
  | 2, hu =>
    have e : u = .bool r := by simpa [cel] using hu.symm
    rw [e]; exact h2
  | 3, hu =>
    have e : u = .slice a2 n2 c2 := by simpa [cel] using hu.symm
    rw [e]; exact h3
  | j + 4, hu => simp [cel] at hu
theorem eok_two {w : World} {m : Nat} {q r : Bool} {a a2 : Option Addr} {n c n2 c2 : Nat} {B C : Int} (h : Num w (.slice a n c) B m) (g : Num w (.slice a2 n2 c2) C m) : ∀ e ∈ [(q, Value.slice a n c, B), (r, Value.slice a2 n2 c2, C)], EOk w m e := by
  intro e he
  rcases List.mem_cons.1 he with rfl | he
  · exact ⟨a, n, c, rfl, h⟩
  · rw [List.mem_singleton] at he
    subst he
    exact ⟨a2, n2, c2, rfl, g⟩
theorem mulw2_in {w : World} (p q r : Bool) {a : Option Addr} {n c : Nat} {A : Int} {m : Nat} {a1 a2 : Option Addr} {n1 c1 n2 c2 : Nat} {B C : Int} {g : Nat} (h0 : w.cell? ⟨g, 0, none⟩ = some (.bool q)) (h1 : w.cell? ⟨g, 1, none⟩ = some (.slice a1 n1 c1)) (h2 : w.cell? ⟨g, 2, none⟩ = some (.bool r)) (h3 : w.cell? ⟨g, 3, none⟩ = some (.slice a2 n2 c2)) (hA : Num w (.slice a n c) A m) (hB : Num w (.slice a1 n1 c1) B m) (hC : Num w (.slice a2 n2 c2) C m) (hm : m ≤ 90) :
    Calls Tryd.prog 24 #[.agg #[.bool p, .slice a n c], .slice (some ⟨g, 0, none⟩) 2 2] w fun e w' => RetW w (sg p A * sg q B * sg r C) (3 * m) e w' := by
  refine (mulw_num p hA g 0 2 2 [(q, .slice a1 n1 c1, B), (r, .slice a2 n2 c2, C)] rfl (by decide) (rdi_two h0 h1 h2 h3) (eok_two hB hC) (by decide) hm).mono ?_
  intro e w' h
  simpa [zprod, prodl, Int.mul_assoc] using h
theorem addw2_in {w : World} (p q r : Bool) {a : Option Addr} {n c : Nat} {A : Int} {m : Nat} {a1 a2 : Option Addr} {n1 c1 n2 c2 : Nat} {B C : Int} {g : Nat} (h0 : w.cell? ⟨g, 0, none⟩ = some (.bool q)) (h1 : w.cell? ⟨g, 1, none⟩ = some (.slice a1 n1 c1)) (h2 : w.cell? ⟨g, 2, none⟩ = some (.bool r)) (h3 : w.cell? ⟨g, 3, none⟩ = some (.slice a2 n2 c2)) (hA : Num w (.slice a n c) A m) (hB : Num w (.slice a1 n1 c1) B m) (hC : Num w (.slice a2 n2 c2) C m) (hm : m ≤ 1000) :
    Calls Tryd.prog 20 #[.agg #[.bool p, .slice a n c], .slice (some ⟨g, 0, none⟩) 2 2] w fun e w' => RetW w (sg p A + sg q B + sg r C) (m + 1) e w' := by
  refine (addw_num p hA (some ⟨g, 0, none⟩) 2 2 [(q, .slice a1 n1 c1, B), (r, .slice a2 n2 c2, C)] rfl (fun h => by cases h) (rdi_two h0 h1 h2 h3) (eok_two hB hC) (by simp) hm).mono ?_
  intro e w' h
  simpa [zsum, Int.add_assoc] using h
theorem addw0_in {w : World} (p : Bool) {a : Option Addr} {n c : Nat} {A : Int} {m : Nat} (hA : Num w (.slice a n c) A m) (hm : m ≤ 1000) :
    Calls Tryd.prog 20 #[.agg #[.bool p, .slice a n c], .slice none 0 0] w fun e w' => RetW w (sg p A) (m + 1) e w' := by
  refine (addw_num p hA none 0 0 [] rfl (fun _ => ⟨rfl, rfl⟩) (fun _ h => nomatch h) (fun _ h => nomatch h) (by simp) hm).mono ?_
  intro e w' h
  simpa [zsum] using h
theorem WN.zero (w : World) (m : Nat) : WN w (.agg #[.bool false, .slice none 0 0]) 0 m := ⟨false, none, 0, 0, 0, 0, rfl, ⟨[], Ow.nil _ _, Can.nil _, rfl, Nat.zero_le _⟩, rfl, fun h => by cases h⟩
theorem RZ.zero (w : World) : RZ w (.agg #[.bool false, .slice none 0 0, .int .i64 0]) 0 0 0 := ⟨false, none, 0, 0, 0, 0, rfl, RN.nil _ _, by simp [sg], fun _ => ⟨rfl, rfl⟩, fun h => absurd rfl h, Nat.le_refl _⟩
/-- A quotient as a value. -/
theorem RetQ.wn {w w' : World} {Z : Int} {m : Nat} {e : Ending} (h : RetQ w Z m e w') : ∃ p a n c, e = .returned (.tuple #[.agg #[.bool p, .slice a n c], .bool true]) ∧ WN w' (.agg #[.bool p, .slice a n c]) Z m ∧ Below w.heap.size w w' := by
  obtain ⟨p, a, n, c, N, h1, h2, h3, h4, h5⟩ := h
  exact ⟨p, a, n, c, h1, ⟨p, a, n, c, N, _, rfl, h2, h3, h4⟩, h5⟩
/-- whole.Int.Quo for every divisor. -/
def RetQZ (w : World) (z : Bool) (Z : Int) (e : Ending) (w' : World) : Prop := ∃ p a n c, e = .returned (.tuple #[.agg #[.bool p, .slice a n c], .bool (!z)]) ∧ WN w' (.agg #[.bool p, .slice a n c]) Z 41 ∧ Below w.heap.size w w'
theorem quo_any {w : World} (p q up : Bool) {a : Option Addr} {n c : Nat} {A : Int} {a' : Option Addr} {n' c' : Nat} {B : Int} (hA : Num w (.slice a n c) A 40) (hB : Num w (.slice a' n' c') B 40) :
    Calls Tryd.prog 11 #[.agg #[.bool p, .slice a n c], .agg #[.bool q, .slice a' n' c'], .bool up] w fun e w' => RetQZ w (decide (B = 0)) (if B = 0 then 0 else fq (sg p A) (sg q B) up) e w' := by
  by_cases h0 : B = 0
  · subst h0
    refine (quo_zero p q up hA hB).mono ?_
    rintro e w' ⟨rfl, hb⟩
    exact ⟨false, none, 0, 0, rfl, WN.zero _ _, hb⟩
  · refine (quo_num (r := 41) p q up hA hB h0 (by decide) (by decide) (by decide) (by decide) (by decide)).mono ?_
    intro e w' h
    obtain ⟨s, b, m, d, rfl, hw, hb⟩ := h.wn
    have h1 := hB.nonneg
    refine ⟨s, b, m, d, by rw [decide_eq_false h0]; rfl, ?_, hb⟩
    rw [if_neg h0, ← fq_sg hA.nonneg (by omega)]
    exact hw
end Go.Proofs.YtfanhllcoaondaaDoor

namespace Go.Proofs.YtfanhllcoaondaaDoor
open Go.RowKit

section
variable {P : Program} {ops : Array Oper} {Q : Exit → Act → World → Prop}
def SlotStepT (P : Program) (ops : Array Oper) (Q : Exit → Act → World → Prop) (ds : List Nat) (t0 : Array Value) (df : List Deferred) (S : Array Value → World → Prop) (F : Nat → Value → World → Prop) (i : Nat) : Prop :=
  ∀ tm w, Same ds t0 tm → S tm w → (∀ o, ops[i]? = some o → ∀ e ∈ o.after, Region.binds .any e = true → Got ops F tm w e.on) →
    wpOp P ops Q i (fun a' w' => ∃ v, a' = Act.put ⟨tm, df⟩ ((ops[i]?).bind (·.dst)) v ∧ S (Act.put ⟨tm, df⟩ ((ops[i]?).bind (·.dst)) v).tmps w' ∧ F i v w' ∧ Below w.heap.size w w') ⟨tm, df⟩ w

theorem slotst_tail_any {ds : List Nat} {t0 : Array Value} {df : List Deferred} {S : Array Value → World → Prop} {F : Nat → Value → World → Prop} {n : Nat}
    (hds : headIn ops n ds = true) (hlt : ∀ d ∈ ds, d < t0.size) (hap : headApart ops n = true) (hed : headBack ops n = true)
    (hsk : Region.sinkB .any ops n = true) (hch : Region.chainB .any ops n = true) (hn : n < ops.size)
    (hsq : Region.seqB .any ops (ops.size - n) n (headDone ops.size n) = true)
    (hk : ∀ i v w w', Below w.heap.size w w' → F i v w → F i v w')
    (hstep : ∀ i ∈ List.range n, SlotStepT P ops Q ds t0 df S F i)
    (hend : ∀ tm w, Same ds t0 tm → S tm w → (∀ i, i < n → Got ops F tm w i) → wpList P ops Q (ops.toList.drop n) ⟨tm, df⟩ w) :
    ∀ (k : Nat) (rem : List Nat) (listed : Array Bool) (tm : Array Value) (w : World), rem.length = k → HeadInv .any ops n listed → rem.Nodup → (∀ i, i ∈ rem ↔ i < n ∧ listed.getD i true = false) → Same ds t0 tm → S tm w → (∀ i, i < n → listed.getD i true = true → Got ops F tm w i) →
      wpAny P .any ops Q (k + (ops.size - n)) listed ⟨tm, df⟩ w := by
  intro k
  induction k with
  | zero =>
    intro rem listed tm w hlen inv hnd hrem hsame hS hgot
    obtain rfl : rem = [] := List.eq_nil_of_length_eq_zero hlen
    have hall : ∀ i, i < n → listed.getD i true = true := fun i hi => by
      cases h : listed.getD i true with
      | true => rfl
      | false => cases (hrem i).2 ⟨hi, h⟩
    have hl := headDone_eq inv hall
    have hlen2 : (ops.toList.drop n).length = ops.size - n := by simp
    rw [Nat.zero_add, ← hlen2]
    refine wpAny_of_seq (ops.toList.drop n) n listed _ w (fun j => by rw [List.getElem?_drop, Array.getElem?_toList]) (by rw [hlen2, hl]; exact hsq) (hend tm w hsame hS fun i hi => hgot i hi (hall i hi))
  | succ k ih =>
    intro rem listed tm w hlen inv hnd hrem hsame hS hgot
    rw [show k + 1 + (ops.size - n) = (k + (ops.size - n)) + 1 by omega]
    obtain ⟨i0, hi0⟩ : ∃ i0, i0 ∈ rem := by
      cases rem with
      | nil => simp at hlen
      | cons x l => exact ⟨x, List.mem_cons_self ..⟩
    have hu0 := (hrem i0).1 hi0
    refine ⟨fun hr => ?_, fun i hi => ?_⟩
    · exfalso
      have hall : ∀ i, i < n → listed.getD i true = true := by
        intro i
        induction i using Nat.strongRecOn with
        | ind i ihi =>
          intro hi
          cases h : listed.getD i true with
          | true => rfl
          | false =>
            exfalso
            have hed' := List.all_eq_true.1 hed i (List.mem_range.2 hi)
            have hi2 : i < ops.size := by omega
            have ho : ops[i]? = some ops[i] := getElem?_pos ops i hi2
            rw [ho] at hed'
            have hmem : i ∈ Region.ready .any ops listed := by
              refine mem_ready.2 ⟨h, _, ho, fun e he hb => ?_⟩
              have h1 := List.all_eq_true.1 hed' e (by simpa using he)
              simp only [hb, Bool.not_true, Bool.false_or, decide_eq_true_eq] at h1
              have h2 := ihi e.on h1 (by omega)
              have h3 : e.on < listed.size := by rw [inv.size]; omega
              simp [Array.getD_eq_getD_getElem?, h3] at h2 ⊢
              exact h2
            rw [hr] at hmem
            cases hmem
      rw [hall i0 hu0.1] at hu0
      cases hu0.2
    · have hin : i < n := by
        rcases Nat.lt_or_ge i n with h | h
        · exact h
        · exact absurd hi (tail_waits hsk hch hn inv _ i0 rfl hu0.1 hu0.2 i h)
      have hi' := hi
      obtain ⟨hun, o, ho, hafter⟩ := mem_ready.1 hi'
      have hlti : i < ops.size := by omega
      have hmem := (hrem i).2 ⟨hin, hun⟩
      have hback := List.all_eq_true.1 hed i (List.mem_range.2 hin)
      rw [ho] at hback
      refine wpOp_mono ?_ (hstep i (List.mem_range.2 hin) tm w hsame hS (fun o' ho' e he hb => ?_))
      · rintro a' w' ⟨v, rfl, hS', hF, hbel⟩
        have hsz : i < listed.size := by rw [inv.size]; exact hlti
        have hin2 := List.all_eq_true.1 hds i (List.mem_range.2 hin)
        simp only [ho, Option.bind_some] at hin2
        cases hd : o.dst with
        | none => rw [hd] at hin2; cases hin2
        | some d =>
          rw [hd] at hin2
          have hdd : ds.contains d = true := hin2
          have hdl : d < tm.size := by rw [hsame.1]; exact hlt d (List.contains_iff_mem.1 hdd)
          simp only [ho, Option.bind_some, hd]
          refine ih (rem.erase i) _ (tm.setIfInBounds d v) w' (by rw [List.length_erase_of_mem hmem]; omega) (inv.set hi hin) (hnd.erase i) (fun j => ?_) ⟨by simpa using hsame.1, fun t ht => ?_⟩ (by rw [ho, Option.bind_some, hd] at hS'; exact hS') fun j hjn hj => ?_
          · rw [hnd.mem_erase_iff, hrem j]
            by_cases hji : i = j
            · subst hji
              simp [Array.getD_eq_getD_getElem?, hsz]
            · rw [getD_set_ne true hji]
              constructor
              · rintro ⟨-, h⟩; exact h
              · intro h; exact ⟨Ne.symm hji, h⟩
          · have htd : d ≠ t := fun e => by subst e; rw [hdd] at ht; cases ht
            rw [Array.getElem?_setIfInBounds_ne htd]
            exact hsame.2 t ht
          · intro o' d' ho' hd'
            by_cases hji : j = i
            · subst hji
              rw [ho] at ho'; cases ho'
              rw [hd] at hd'; cases hd'
              exact ⟨v, by simp [hdl], hF⟩
            · rw [getD_set_ne true (Ne.symm hji)] at hj
              obtain ⟨v', h1, h2⟩ := hgot j hjn hj o' d' ho' hd'
              have h3 := List.all_eq_true.1 (List.all_eq_true.1 hap i (List.mem_range.2 hin)) j (List.mem_range.2 hjn)
              simp only [ho, ho', Option.bind_some, hd, hd', Bool.or_eq_true, beq_iff_eq, bne_iff_ne] at h3
              have hne : d ≠ d' := h3.resolve_left (fun e => hji e.symm)
              exact ⟨v', by rw [Array.getElem?_setIfInBounds_ne hne]; exact h1, hk _ _ _ _ hbel h2⟩
      · rw [ho] at ho'; cases ho'
        have h1 := List.all_eq_true.1 hback e (by simpa using he)
        simp only [hb, Bool.not_true, Bool.false_or, decide_eq_true_eq] at h1
        have h2 := hafter e he hb
        refine hgot e.on (by omega) ?_
        have h3 : e.on < listed.size := by rw [inv.size]; omega
        simp [Array.getD_eq_getD_getElem?, h3] at h2 ⊢
        exact h2

theorem wp_region_slotst_tail {id : Nat} {t0 : Array Value} {df : List Deferred} {w : World} (hm : P.follows .mixedOrders = true) (n : Nat) (ds : List Nat) (S : Array Value → World → Prop) (F : Nat → Value → World → Prop)
    (hds : headIn ops n ds = true) (hlt : (ds.all fun d => decide (d < t0.size)) = true) (hap : headApart ops n = true) (hed : headBack ops n = true)
    (htl : (Region.sinkB .any ops n && Region.chainB .any ops n && decide (n < ops.size) && Region.seqB .any ops (ops.size - n) n (headDone ops.size n)) = true)
    (hk : ∀ i v w w', Below w.heap.size w w' → F i v w → F i v w') (hS : S t0 w.drew)
    {l : List Nat} (hl : List.range n = l) (hstep : ∀ i ∈ l, SlotStepT P ops Q ds t0 df S F i)
    (hend : ∀ tm w, Same ds t0 tm → S tm w → (∀ i, i < n → Got ops F tm w i) → wpList P ops Q (ops.toList.drop n) ⟨tm, df⟩ w) :
    (Code.region id ops true).wp P Q ⟨t0, df⟩ w := by
  subst hl
  simp only [Bool.and_eq_true, decide_eq_true_eq] at htl
  obtain ⟨⟨⟨hsk, hch⟩, hn⟩, hsq⟩ := htl
  refine wp_region_any hm ?_
  have h := slotst_tail_any (P := P) (Q := Q) (df := df) hds (fun d hd => by simpa using List.all_eq_true.1 hlt d hd) hap hed hsk hch hn hsq hk hstep hend n (List.range n) (Array.replicate ops.size false) t0 w.drew (by simp) ⟨by simp, (fun j oj hj hl => (by rw [getD_replicate_false] at hl; cases hl)), (fun t ht ht' => (by simp [Array.getD_eq_getD_getElem?, ht']))⟩ List.nodup_range (fun i => by
    rw [List.mem_range]
    constructor
    · intro hi
      exact ⟨hi, by simp [Array.getD_eq_getD_getElem?, show i < ops.size by omega]⟩
    · exact fun h => h.1) ⟨rfl, fun _ _ => rfl⟩ hS (fun i hi hl => by
      simp [Array.getD_eq_getD_getElem?, show i < ops.size by omega] at hl)
  rwa [show n + (ops.size - n) = ops.size by omega] at h


/-- An operation that does not run since the one that guards it did not. -/
theorem SlotStep.skipU {ds : List Nat} {t0 : Array Value} {df : List Deferred} {S : World → Prop} {F : Nat → Value → World → Prop} {i : Nat} {o : Oper} {d : Nat} (ho : ops[i]? = some o) (hd : o.dst = some d) (j : Nat) (b : Bool) (hn : o.guard = some (j, b))
    {dj : Nat} (hj : (ops[j]?).bind (·.dst) = some dj) (hjd : ((o.after.toList.filter (Region.binds .any)).map (·.on)).contains j = true) (hF : ∀ v w, F j v w → v = undef) (hU : ∀ w, F i undef w) :
    SlotStep P ops Q ds t0 df S F i :=
  SlotStep.one ho hd fun tm w h1 h2 h3 K hK => by
    obtain ⟨oj, hoj, hdj⟩ := Option.bind_eq_some_iff.1 hj
    obtain ⟨v, e, hv⟩ := h3 j hjd oj dj hoj hdj
    rw [hF _ _ hv] at e
    have hy : yielded ops tm j = none := by
      unfold yielded
      rw [hj, Option.bind_some, e]
      rfl
    rw [if_neg (by unfold Region.wanted; rw [hn]; simp only [hy]; cases b <;> decide), hd]
    exact hK _ _ (Below.refl _ _) h2 (hU w)
theorem SlotStepT.plain {ds : List Nat} {t0 : Array Value} {df : List Deferred} {S : Array Value → World → Prop} {F : Nat → Value → World → Prop} {i : Nat} {o : Oper} {d : Nat} (ho : ops[i]? = some o) (hd : o.dst = some d) (hn : o.guard = none)
    (h : ∀ tm w, Same ds t0 tm → S tm w → (∀ j, ((o.after.toList.filter (Region.binds .any)).map (·.on)).contains j = true → Got ops F tm w j) →
      ∀ K : Act → World → Prop, (∀ v w', Below w.heap.size w w' → S (tm.setIfInBounds d v) w' → F i v w' → K ⟨tm.setIfInBounds d v, df⟩ w') → Oper.wp P o ⟨tm, df⟩ w K Q) :
    SlotStepT P ops Q ds t0 df S F i := by
  intro tm w hsame hS hgot
  refine wpOp_step ho fun K hK => ?_
  rw [if_pos (by unfold Region.wanted; rw [hn])]
  refine h tm w hsame hS (fun j hj => ?_) K fun v w' hb hS' hF => ?_
  · obtain ⟨e, he, rfl⟩ := List.mem_map.1 (List.contains_iff_mem.1 hj)
    obtain ⟨h1, h2⟩ := List.mem_filter.1 he
    exact hgot o ho e (by simpa using h1) h2
  · refine hK _ _ ⟨v, ?_, ?_, hF, hb⟩
    · rw [ho]
      show _ = Act.put ⟨tm, df⟩ o.dst v
      rw [hd]
      rfl
    · rw [ho]
      show S (Act.put ⟨tm, df⟩ o.dst v).tmps w'
      rw [hd]
      exact hS'
end

/-- The variables that two slots point to, once they are made, lie apart. -/
def Two (i j : Nat) (tm : Array Value) (w : World) : Prop :=
  (∀ g, tm[i]? = some (.pointer (some ⟨g, 0, none⟩)) → g < w.heap.size) ∧ (∀ g, tm[j]? = some (.pointer (some ⟨g, 0, none⟩)) → g < w.heap.size) ∧ ∀ g, tm[i]? = some (.pointer (some ⟨g, 0, none⟩)) → tm[j]? ≠ some (.pointer (some ⟨g, 0, none⟩))
theorem Two.start {i j : Nat} {t0 : Array Value} {w : World} (hi : t0[i]? = some undef) (hj : t0[j]? = some undef) : Two i j t0 w := by
  refine ⟨fun g h => ?_, fun g h => ?_, fun g h => ?_⟩
  · rw [hi] at h; cases h
  · rw [hj] at h; cases h
  · rw [hi] at h; cases h
theorem Two.other {i j d : Nat} {tm : Array Value} {w w' : World} {v : Value} (h : Two i j tm w) (hs : w.heap.size ≤ w'.heap.size) (hi : d ≠ i) (hj : d ≠ j) : Two i j (tm.setIfInBounds d v) w' := by
  refine ⟨fun g h1 => ?_, fun g h1 => ?_, fun g h1 => ?_⟩
  · rw [Array.getElem?_setIfInBounds_ne hi] at h1
    exact Nat.lt_of_lt_of_le (h.1 g h1) hs
  · rw [Array.getElem?_setIfInBounds_ne hj] at h1
    exact Nat.lt_of_lt_of_le (h.2.1 g h1) hs
  · rw [Array.getElem?_setIfInBounds_ne hi] at h1
    rw [Array.getElem?_setIfInBounds_ne hj]
    exact h.2.2 g h1
theorem Two.first {i j : Nat} {tm : Array Value} {w : World} {o : Obj} (h : Two i j tm w) (hij : i ≠ j) : Two i j (tm.setIfInBounds i (.pointer (some ⟨w.heap.size, 0, none⟩))) (w.alloc o) := by
  have key : ∀ g, (tm.setIfInBounds i (.pointer (some ⟨w.heap.size, 0, none⟩)))[i]? = some (.pointer (some ⟨g, 0, none⟩)) → g = w.heap.size := by
    intro g hg
    rw [Array.getElem?_setIfInBounds_self] at hg
    split at hg
    · simpa using hg.symm
    · cases hg
  refine ⟨fun g h1 => ?_, fun g h1 => ?_, fun g h1 => ?_⟩
  · rw [key g h1]; simp
  · rw [Array.getElem?_setIfInBounds_ne hij] at h1
    have := h.2.1 g h1
    simp; omega
  · rw [Array.getElem?_setIfInBounds_ne hij, key g h1]
    intro h2
    have := h.2.1 _ h2
    omega
theorem Two.second {i j : Nat} {tm : Array Value} {w : World} {o : Obj} (h : Two i j tm w) (hij : i ≠ j) : Two i j (tm.setIfInBounds j (.pointer (some ⟨w.heap.size, 0, none⟩))) (w.alloc o) := by
  have key : ∀ g, (tm.setIfInBounds j (.pointer (some ⟨w.heap.size, 0, none⟩)))[j]? = some (.pointer (some ⟨g, 0, none⟩)) → g = w.heap.size := by
    intro g hg
    rw [Array.getElem?_setIfInBounds_self] at hg
    split at hg
    · simpa using hg.symm
    · cases hg
  refine ⟨fun g h1 => ?_, fun g h1 => ?_, fun g h1 h2 => ?_⟩
  · rw [Array.getElem?_setIfInBounds_ne (Ne.symm hij)] at h1
    have := h.1 g h1
    simp; omega
  · rw [key g h1]; simp
  · rw [Array.getElem?_setIfInBounds_ne (Ne.symm hij)] at h1
    have := h.1 g h1
    have := key g h2
    omega
/-- A new variable of one of the document's dyads. -/
def IsNewD (base : Nat) (v : Value) (w : World) : Prop := ∃ g, v = .pointer (some ⟨g, 0, none⟩) ∧ w.heap[g]? = some (.cells #[.bool false, .slice none 0 0, .int .i64 0] 31 (0, 0)) ∧ base ≤ g
theorem IsNewD.keeps (base : Nat) : Keeps (IsNewD base) := fun _ _ _ hb ⟨g, h1, h2, h3⟩ => ⟨g, h1, slot_kept h2 hb, h3⟩
/-- The block of another variable stays when one is stored to. -/
theorem slot_apart {w : World} {g h : Nat} {o : Obj} {u v s : Value} (hg : w.heap[g]? = some o) (hne : g ≠ h) :
    (((w.setCell ⟨h, 0, none⟩ u).setCell ⟨h, 1, none⟩ v).setCell ⟨h, 2, none⟩ s).heap[g]? = some o := by
  rw [heap_setCell_other _ _ _ _ hne, heap_setCell_other _ _ _ _ hne, heap_setCell_other _ _ _ _ hne]
  exact hg
end Go.Proofs.YtfanhllcoaondaaDoor
