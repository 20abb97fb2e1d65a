/-
  Whole3: Contracts of package whole: difference, Shl, Text, Quo.
  WriteD: Contract of nat.writeDigits: decimal digits by halves.
  TextN: Contract of nat.Text for numbers of at most 150 words; decimal texts.
  RefText: Contracts of the reference's Text and Digits.
-/
import Derived.Test.YtkkjkohmekbdbaaPk12
import Derived.Test.YtkkjkohmekbdbaaPk18
import Derived.Test.YtkkjkohmekbdbaaPk11
import Derived.Deep.RegionWith
import Derived.Test.YtkkjkohmekbdbaaPk2
import Derived.Test.YtkkjkohmekbdbaaPk6

namespace Go.Proofs.Ytkkjkohmekbdbaa
open Go.RowKit

theorem NewN.mono {base : Nat} {w : World} {v : Value} {N : Int} {m k : Nat} (h : NewN base w v N m) (hk : m ≤ k) : NewN base w v N k := by
  obtain ⟨l, h1, h2, h3, h4⟩ := h
  exact ⟨l, h1, h2, h3, by omega⟩

/-- The amount of a quotient that whole.Int.Quo returns. -/
def qm (neg up : Bool) (N D : Int) : Int := if N % D ≠ 0 ∧ neg ≠ up then N / D + 1 else N / D

theorem results_cell_tmp' {fn : Func} {p u : Tmp} {ty : TypeId} (h : fn.results = #[.cell p ty, .tmp u]) (tmps : Array Value) (P : Program) (w : World) (g : Nat) (t : TypeId) (cs : Array Value) (fr : Nat × Nat) (fs : Array Field)
    (hp : tmps.getD p undef = .pointer (some ⟨g, 0, none⟩)) (hg : w.heap[g]? = some (.cells cs t fr))
    (hu : P.underlying ty = some (.struct fs)) (hi : (P.info? ty).map (·.size) = some cs.size) :
    (results fn tmps).run P w = .ok (.tuple #[.agg cs, tmps.getD u undef]) w := by
  have hp' : tmps[p]?.getD undef = .pointer (some ⟨g, 0, none⟩) := by simpa using hp
  simp [results, h, hp', asAddr, run_loadVar_row w g t ty cs fr (.struct fs) hg hu rfl hi, Result.andThen]

/-- What whole.Int.Quo returns where the divisor is not 0. -/
def RetQ (w : World) (Z : Int) (m : Nat) (e : Ending) (w' : World) : Prop :=
  ∃ neg a n c N, e = .returned (.tuple #[.agg #[.bool neg, .slice a n c], .bool true]) ∧ NewN w.heap.size w' (.slice a n c) N m ∧ Z = sg neg N ∧ (neg = true → N ≠ 0) ∧ Below w.heap.size w w'
/-- What is known when a result that lies in a variable of its own has been stored; the parts. -/
theorem slot_end2 {w w2 : World} {x y : Value} {t : TypeId} {base : Nat} {neg' : Bool} {a : Option Addr} {n c : Nat} {N : Int} {m : Nat} {g : Nat} (hblk : w2.heap[g]? = some (.cells #[x, y] t (0, 0))) (hbw : Below w.heap.size w w2) (hg : w.heap.size ≤ g)
    (h : NewN base w2 (.slice a n c) N m) (hbase : g < base) :
    ((w2.setCell ⟨g, 0, none⟩ (.bool neg')).setCell ⟨g, 1, none⟩ (.slice a n c)).heap[g]? = some (.cells #[.bool neg', .slice a n c] t (0, 0)) ∧
    NewN w.heap.size ((w2.setCell ⟨g, 0, none⟩ (.bool neg')).setCell ⟨g, 1, none⟩ (.slice a n c)) (.slice a n c) N m ∧ Below w.heap.size w ((w2.setCell ⟨g, 0, none⟩ (.bool neg')).setCell ⟨g, 1, none⟩ (.slice a n c)) := by
  have hon := slot_only (w := w2) (g := g) (.bool neg') (.slice a n c)
  exact ⟨slot_set hblk, (h.only hon hbase).base (Nat.le_trans hg (Nat.le_of_lt hbase)), hbw.trans (hon.below hg hbw.size)⟩
theorem heap_alloc3_new (w : World) (A B C : Obj) : (((w.alloc A).alloc B).alloc C).heap[w.heap.size + 2]? = some C := by
  have h := heap_alloc_new ((w.alloc A).alloc B) C
  have e : ((w.alloc A).alloc B).heap.size = w.heap.size + 2 := by simp
  rwa [e] at h

end Go.Proofs.Ytkkjkohmekbdbaa

namespace Go.Proofs.Ytkkjkohmekbdbaa
open Go.RowKit

/-- A number that lies outside block g. -/
def NumG (w : World) (g : Nat) (v : Value) (N : Int) (m : Nat) : Prop := Num w v N m ∧ ∀ b o n c, v = .slice (some ⟨b, o, none⟩) n c → n ≠ 0 → b ≠ g
theorem NumG.only {w w' : World} {g lo hi : Nat} {v : Value} {N : Int} {m : Nat} (h : NumG w g v N m) (ho : Only g lo hi w w') : NumG w' g v N m := by
  obtain ⟨⟨l, ⟨a, c, rfl, h1, h2, h3, h4⟩, h5, h6⟩, hne⟩ := h
  refine ⟨⟨l, ⟨a, c, rfl, h1, h2, ?_, h4⟩, h5, h6⟩, hne⟩
  rcases h3 with rfl | ⟨b, off, rfl, hat⟩
  · exact Rd.nil _ _
  · by_cases hl : l = []
    · subst hl; exact Rd.nil _ _
    · exact Rd.of_at (ho.at' hat (hne b off _ c rfl (by simpa using hl)))
theorem NumG.below {w w' : World} {g : Nat} {v : Value} {N : Int} {m : Nat} (h : NumG w g v N m) (hb : Below w.heap.size w w') : NumG w' g v N m := ⟨h.1.below hb, h.2⟩
theorem RdRow.only {w w' : World} {g lo hi : Nat} {ao : Option Addr} {vs : List Value} (h : RdRow w ao vs) (ho : Only g lo hi w w') (hne : ∀ b o, ao = some ⟨b, o, none⟩ → b ≠ g) : RdRow w' ao vs := by
  rcases h with rfl | ⟨b, off, rfl, h⟩
  · exact Or.inl rfl
  · refine Or.inr ⟨b, off, rfl, fun j v hv => ?_⟩
    have hc := h j v hv
    have hlt := World.block_lt_of_cell? (a := ⟨b, off + j, none⟩) _ hc
    rw [World.cell?_of_block (w := w) (ho.block b hlt (hne b off rfl))]
    exact hc
theorem RdRow.take {w : World} {ao : Option Addr} {vs : List Value} (h : RdRow w ao vs) (k : Nat) : RdRow w ao (vs.take k) := by
  rcases h with rfl | ⟨b, off, rfl, h⟩
  · exact Or.inl (by simp)
  · refine Or.inr ⟨b, off, rfl, fun j v hv => h j v ?_⟩
    rw [List.getElem?_take] at hv
    split at hv
    · exact hv
    · cases hv

theorem dg_half (h : Nat) (N : Int) : dg (h + h) N = dg h (N / 10 ^ h) ++ dg h (N % 10 ^ h) := by
  rw [dg_add, dg_mod h h N (Nat.le_refl _)]

theorem ArrB.only {b lo hi : Nat} {u v : World} {off : Nat} {l : List Int} (ha : ArrB u b off l) (h : Only b lo hi u v) (hd : off + l.length ≤ lo ∨ hi ≤ off) : ArrB v b off l := by
  obtain ⟨cur, e, hc, hl⟩ := ha
  obtain ⟨c, a, _, g⟩ := h.row cur e hc
  exact ⟨c, e, a, fun j hj => (g _ (by omega)).trans (hl j hj)⟩
theorem ArrB.join {w : World} {b off : Nat} {l m : List Int} (h : ArrB w b off l) (k : ArrB w b (off + l.length) m) : ArrB w b off (l ++ m) := by
  obtain ⟨cur, e, hc, hl⟩ := h
  obtain ⟨cur2, e2, hc2, hl2⟩ := k
  rw [hc] at hc2
  simp only [Option.some.injEq, Obj.cells.injEq] at hc2
  obtain ⟨rfl, rfl, _⟩ := hc2
  refine ⟨cur, e, hc, fun j hj => ?_⟩
  rw [List.length_append] at hj
  by_cases hjl : j < l.length
  · rw [hl j hjl, List.getD_eq_getElem?_getD, List.getD_eq_getElem?_getD, List.getElem?_append_left hjl]
  · have := hl2 (j - l.length) (by omega)
    rw [show off + l.length + (j - l.length) = off + j by omega] at this
    rw [this, List.getD_eq_getElem?_getD, List.getD_eq_getElem?_getD, List.getElem?_append_right (by omega)]

end Go.Proofs.Ytkkjkohmekbdbaa

namespace Go.Proofs.Ytkkjkohmekbdbaa
open Go.RowKit

theorem dg_zero (k : Nat) : dg k 0 = List.replicate k 48 := by
  induction k with
  | zero => rfl
  | succ k ih =>
    rw [dg, show (0 : Int) / 10 = 0 by decide, ih, List.replicate_succ']
    rfl
theorem lead_rep (k : Nat) (l : List Int) : lead (List.replicate k 48 ++ l) = k + lead l := by
  induction k with
  | zero => simp
  | succ k ih =>
    rw [List.replicate_succ, List.cons_append]
    simp only [lead, if_true, ih]
    omega
theorem dg_more (k n : Nat) {N : Int} (h0 : 0 ≤ N) (hN : N < 10 ^ n) : dg (k + n) N = List.replicate k 48 ++ dg n N := by
  rw [dg_add, Int.ediv_eq_zero_of_lt h0 hN, dg_zero]
theorem txt_more (k n : Nat) {N : Int} (h0 : 0 ≤ N) (hN : N < 10 ^ n) : txt (k + n) N = txt n N := by
  unfold txt
  rw [dg_more k n h0 hN, lead_rep]
  by_cases h : lead (dg n N) = n
  · rw [if_pos (by omega), if_pos h]
  · rw [if_neg (by omega), if_neg h, List.drop_append]
    simp
/-- The decimal digits of a number. -/
def dec (N : Int) : List Int := txt (N.toNat + 1) N
theorem lt_ten (N : Int) : N < 10 ^ (N.toNat + 1) := by
  have h1 : N.toNat + 1 < 10 ^ (N.toNat + 1) := Nat.lt_pow_self (by decide)
  have h2 : ((N.toNat + 1 : Nat) : Int) < ((10 ^ (N.toNat + 1) : Nat) : Int) := by exact_mod_cast h1
  rw [Int.natCast_pow] at h2
  have h3 : ((10 : Nat) : Int) ^ (N.toNat + 1) = (10 : Int) ^ (N.toNat + 1) := rfl
  omega
theorem txt_dec {n : Nat} {N : Int} (h0 : 0 ≤ N) (hN : N < 10 ^ n) : txt n N = dec N := by
  have h := lt_ten N
  unfold dec
  rcases Nat.le_total n (N.toNat + 1) with a | a
  · obtain ⟨k, hk⟩ := Nat.le.dest a
    rw [← hk, Nat.add_comm n k, txt_more k n h0 hN]
  · obtain ⟨k, hk⟩ := Nat.le.dest a
    rw [← hk, Nat.add_comm (N.toNat + 1) k, txt_more k _ h0 h]

theorem numg_fresh {w : World} {g : Nat} {v : Value} {N : Int} {m : Nat} (h : Num w v N m) (hg : w.heap.size ≤ g) : NumG w g v N m := by
  refine ⟨h, fun b o n c e hn => ?_⟩
  obtain ⟨l, ⟨a, c', he, h1, h2, h3, h4⟩, h5, h6⟩ := h
  rw [e] at he
  simp only [Value.slice.injEq] at he
  obtain ⟨rfl, rfl, rfl⟩ := he
  rcases h3 with rfl | ⟨b', o', e', hat⟩
  · simp at hn
  · cases e'
    have := hat.lt (by intro e; subst e; simp at hn)
    omega

theorem pw_mono {i j : Nat} (h : i ≤ j) : pw i ≤ pw j := by
  unfold pw
  refine pow_le_pow (by decide) ?_
  exact Nat.mul_le_mul_left _ (Nat.pow_le_pow_right (by decide) h)
theorem pw_small {i : Nat} {N : Int} {m : Nat} (h : pw i ≤ N) (hN : N < B64 ^ m) (hm : m ≤ 150) : i ≤ 8 := by
  rcases Nat.lt_or_ge i 9 with a | a
  · omega
  · have h1 := pw_mono a
    have h2 := pow_le_pow B64_pos hm
    have h3 : B64 ^ 150 ≤ pw 9 := by decide +kernel
    omega

/-! ### The number of a decimal text -/

theorem byte_num {d : Int} (h : 48 ≤ d ∧ d ≤ 57) : (((UInt8.ofNat d.toNat).toNat : Nat) : Int) = d := by
  have h1 : d.toNat < 256 := by omega
  have h2 : (UInt8.ofNat d.toNat).toNat = d.toNat := by simp [Nat.mod_eq_of_lt h1]
  omega
def bytesOf (l : List Int) : List UInt8 := l.map fun n => UInt8.ofNat n.toNat
theorem dval_dg (n : Nat) {N : Int} (h0 : 0 ≤ N) (hN : N < 10 ^ n) : dval (bytesOf (dg n N)) = N := by
  induction n generalizing N with
  | zero => simp [dg, bytesOf, dval]; rw [Int.pow_zero] at hN; omega
  | succ n ih =>
    have h1 : dval (bytesOf (dg n (N / 10))) = N / 10 := ih (Int.ediv_nonneg h0 (by decide)) (by
      refine Int.ediv_lt_of_lt_mul (by decide) ?_
      rw [Int.pow_succ] at hN; exact hN)
    have h2 := byte_num (d := 48 + N % 10) (by omega)
    rw [dg, bytesOf, List.map_append, List.map_cons, List.map_nil, dval_snoc]
    rw [bytesOf] at h1
    rw [h1, h2]
    omega
theorem allD_dg (n : Nat) (N : Int) : allD (bytesOf (dg n N)) = true := by
  unfold allD bytesOf
  rw [List.all_eq_true]
  intro c hc
  obtain ⟨d, hd, rfl⟩ := List.mem_map.1 hc
  have h1 := dg_lim n N d hd
  have h2 := byte_num h1
  exact dokB_yes _ (by omega) (by omega)
theorem dval_zeros (k : Nat) (l : List UInt8) : dval (List.replicate k 48 ++ l) = dval l := by
  rw [dval_app]
  have e : dval (List.replicate k 48) = 0 := by
    induction k with
    | zero => rfl
    | succ k ih => rw [List.replicate_succ', dval_snoc, ih]; decide
  rw [e]; simp
theorem lead_split (l : List Int) : l = List.replicate (lead l) 48 ++ l.drop (lead l) := by
  induction l with
  | nil => rfl
  | cons x l ih =>
    by_cases h : x = 48
    · subst h
      simp only [lead, if_true, List.replicate_succ, List.drop_succ_cons, List.cons_append]
      rw [← ih]
    · simp [lead, h]
theorem txt_spec (n : Nat) {N : Int} (h0 : 0 ≤ N) (hN : N < 10 ^ n) : dval (bytesOf (txt n N)) = N ∧ allD (bytesOf (txt n N)) = true ∧ 0 < (txt n N).length ∧ (txt n N).length ≤ n + 1 := by
  have h1 := dval_dg n h0 hN
  have h2 := allD_dg n N
  have h3 := lead_le (dg n N)
  rw [dg_length] at h3
  rw [lead_split (dg n N)] at h1 h2
  have e : bytesOf (List.replicate (lead (dg n N)) 48 ++ (dg n N).drop (lead (dg n N))) = List.replicate (lead (dg n N)) 48 ++ bytesOf ((dg n N).drop (lead (dg n N))) := by
    unfold bytesOf
    rw [List.map_append, List.map_replicate]
    rfl
  rw [e, dval_zeros] at h1
  rw [e, allD_app, Bool.and_eq_true] at h2
  unfold txt
  by_cases hl : lead (dg n N) = n
  · rw [if_pos hl]
    rw [hl, List.drop_of_length_le (by rw [dg_length]; exact Nat.le_refl _)] at h1
    have : N = 0 := by rw [← h1]; rfl
    subst this
    exact ⟨by decide, by decide, by decide, by simp⟩
  · rw [if_neg hl]
    refine ⟨h1, h2.2, ?_, ?_⟩ <;> rw [List.length_drop, dg_length] <;> omega
theorem dec_bytes (N : Int) : (strOfNums (dec N)).data.toList = bytesOf (dec N) := rfl
theorem dec_size (N : Int) : (strOfNums (dec N)).size = (dec N).length := by
  show ((dec N).map fun n => UInt8.ofNat n.toNat).toArray.size = _
  rw [List.size_toArray, List.length_map]
theorem dec_spec {N : Int} (h0 : 0 ≤ N) : dval (bytesOf (dec N)) = N ∧ allD (bytesOf (dec N)) = true ∧ 0 < (dec N).length := by
  have := txt_spec (N.toNat + 1) h0 (lt_ten N)
  exact ⟨this.1, this.2.1, this.2.2.1⟩
theorem dec_len {N : Int} {n : Nat} (h0 : 0 ≤ N) (hN : N < 10 ^ n) : (dec N).length ≤ n + 1 := by
  rw [← txt_dec h0 hN]
  exact (txt_spec n h0 hN).2.2.2
end Go.Proofs.Ytkkjkohmekbdbaa

namespace Go.Proofs.Ytkkjkohmekbdbaa
open Go.RowKit

theorem str_append (l m : List Int) : strOfNums l ++ strOfNums m = strOfNums (l ++ m) := by
  apply ByteArray.ext
  rw [ByteArray.data_append]
  apply Array.toList_inj.1
  rw [Array.toList_append, strOfNums_data, strOfNums_data, strOfNums_data, List.map_append]
theorem str_one (c : Int) : strOfNums [c] = ⟨#[UInt8.ofNat c.toNat]⟩ := rfl
theorem str_size (l : List Int) : (strOfNums l).size = l.length := by
  show (l.map fun n : Int => UInt8.ofNat n.toNat).toArray.size = _
  rw [List.size_toArray, List.length_map]

/-- No zero ahead where the top digit is none. -/
theorem lead_top {n : Nat} {N : Int} (h1 : 10 ^ n ≤ N) (h2 : N < 10 ^ (n + 1)) : lead (dg (n + 1) N) = 0 := by
  have hp : (0 : Int) < 10 ^ n := Int.pow_pos (by decide)
  have h3 : 1 ≤ N / 10 ^ n := Int.le_ediv_of_mul_le hp (by omega)
  have h4 : N / 10 ^ n < 10 := Int.ediv_lt_of_lt_mul hp (by rw [Int.pow_succ, Int.mul_comm] at h2; exact h2)
  rw [dg_cons, Int.emod_eq_of_lt (by omega) h4]
  simp only [lead]
  rw [if_neg (by omega)]
theorem dec_top {n : Nat} {N : Int} (h1 : 10 ^ n ≤ N) (h2 : N < 10 ^ (n + 1)) : dec N = dg (n + 1) N := by
  have hp : (0 : Int) < 10 ^ n := Int.pow_pos (by decide)
  rw [← txt_dec (by omega) h2, txt, if_neg (by rw [lead_top h1 h2]; omega), lead_top h1 h2]
  rfl
theorem dec_zero : strOfNums (dec 0) = ⟨#[48]⟩ := by decide +kernel

/-- What the text so far is: the lowest digits, or all of them. -/
def TxtAt (N M : Int) (S : ByteArray) : Prop := (∃ j : Nat, M = N / 10 ^ (9 * j) ∧ S = strOfNums (dg (9 * j) N) ∧ (0 < M ∨ j = 0)) ∨ (M = 0 ∧ S = strOfNums (dec N) ∧ 0 < N)
theorem txt_go {N M v0 : Int} {j : Nat} (hM : M = N / 10 ^ (9 * j)) (hv : v0 = M % 1000000000) : strOfNums (dg 9 v0) ++ strOfNums (dg (9 * j) N) = strOfNums (dg (9 * (j + 1)) N) := by
  have e := dg_add 9 (9 * j) N
  rw [show 9 + 9 * j = 9 * (j + 1) by omega] at e
  have e2 : dg 9 (M % 10 ^ 9) = dg 9 M := dg_mod 9 9 M (Nat.le_refl _)
  rw [str_append, e, ← hM, ← e2, hv]
  rfl
theorem txt_end {N M v0 : Int} {j k : Nat} (hM : M = N / 10 ^ (9 * j)) (hv : v0 = M) (hk : 0 < k) (h1 : 0 < v0 / 10 ^ (k - 1)) (h2 : v0 / 10 ^ k = 0) (hv0 : 0 ≤ v0) : strOfNums (dg k v0) ++ strOfNums (dg (9 * j) N) = strOfNums (dec N) := by
  subst hv
  have hp : (0 : Int) < 10 ^ (9 * j) := Int.pow_pos (by decide)
  have hp1 : (0 : Int) < 10 ^ (k - 1) := Int.pow_pos (by decide)
  have hp2 : (0 : Int) < 10 ^ k := Int.pow_pos (by decide)
  have a1 : 10 ^ (k - 1) ≤ v0 := by
    rcases Int.lt_or_le v0 (10 ^ (k - 1)) with h | h
    · rw [Int.ediv_eq_zero_of_lt hv0 h] at h1; omega
    · exact h
  have a2 : v0 < 10 ^ k := by
    rcases Int.lt_or_le v0 (10 ^ k) with h | h
    · exact h
    · have := Int.le_ediv_of_mul_le hp2 (show 1 * 10 ^ k ≤ v0 by omega); omega
  obtain ⟨i, rfl⟩ : ∃ i, k = i + 1 := ⟨k - 1, by omega⟩
  rw [Nat.add_sub_cancel] at a1
  have b1 : 10 ^ (i + 9 * j) ≤ N := by
    rw [Int.pow_add]
    have h3 := Int.mul_le_mul_of_nonneg_right a1 (Int.le_of_lt hp)
    have h4 := Int.ediv_mul_le N (show (10 : Int) ^ (9 * j) ≠ 0 by omega)
    rw [← hM] at h4
    omega
  have b2 : N < 10 ^ (i + 9 * j + 1) := by
    rw [show i + 9 * j + 1 = (i + 1) + 9 * j by omega, Int.pow_add]
    have h3 := Int.lt_ediv_add_one_mul_self N hp
    rw [← hM] at h3
    have h4 : (v0 + 1) * 10 ^ (9 * j) ≤ 10 ^ (i + 1) * 10 ^ (9 * j) := Int.mul_le_mul_of_nonneg_right (by omega) (Int.le_of_lt hp)
    omega
  have e := dec_top b1 b2
  rw [str_append, e, hM, ← dg_add]
  congr 2
  omega
theorem txt_room {N : Int} {j n : Nat} (h : 0 < N / 10 ^ (9 * j) ∨ j = 0) (hN : N < 10 ^ n) (h0 : 0 ≤ N) : 9 * j ≤ n := by
  rcases h with h | h
  · rcases Nat.lt_or_ge n (9 * j) with a | a
    · have : N / 10 ^ (9 * j) = 0 := Int.ediv_eq_zero_of_lt h0 (Int.lt_of_lt_of_le hN (pow_le_pow (by decide) (Nat.le_of_lt a)))
      omega
    · exact a
  · subst h; omega

end Go.Proofs.Ytkkjkohmekbdbaa
