/-
  Laws: Laws for a walk, in the words of XMem: make, copy, append on rows of 64-bit words. No function of the program is spoken of here.
  Bytes: Memory that holds bytes; writes into one block, where nothing is said of blocks from a number on.
-/
import Derived.Test.YtkkjkohmekbdbaaPk3
import Derived.Laws.CopyOwn
import Derived.Deep.Draws
import Derived.Deep.RegionLaw
import Derived.Test.YtkkjkohmekbdbaaPk2

namespace Go.Proofs.Ytkkjkohmekbdbaa
open Go.RowKit

/-- More words than this are never made. -/
def MaxW : Nat := 17592186044416

theorem goInt_eq (n : Int) : goInt n = .int .i64 n := rfl

/-- make([]uint64, n), n a variable. -/
theorem wpList_make_words {P : Program} (w : World) {ops : Array Oper} {rest : List Oper} {o : Oper} {a : Act} {Q : Exit → Act → World → Prop}
    (hg : o.guard = none) (l c : Operand) (t : TypeId) (hop : o.op = Op.makeSlice t l c)
    (h1 : P.underlying t = some (.slice 57)) (hi : (P.info? 57).map (fun i => (i.zero, i.size, i.bytes)) = some (some (.int .u64 0), 1, 8))
    (L C : Int) (n : Nat) (hl : a.eval l = .int .i64 L) (hc : a.eval c = .int .i64 C) (hL : L = (n : Int)) (hC : C = (n : Int)) (b : n ≤ MaxW)
    (hK : ∀ w', Ow w.heap.size w' (.slice (some ⟨w.heap.size, 0, none⟩) n n) (List.replicate n 0) → Below w.heap.size w w' → w.heap.size < w'.heap.size → wpList P ops Q rest (a.put o.dst (.slice (some ⟨w.heap.size, 0, none⟩) n n)) w') :
    wpList P ops Q (o :: rest) a w := by
  obtain ⟨i, h2, h3, h4, h5⟩ := info_parts hi
  refine wpList_make_full w hg l c t hop w.heap.size 57 i (.int .u64 0) 1 h1 h2 h3 h4 .i64 .i64 L C n hl hc hL hC (by unfold MaxW at b; rw [h5]; omega) (by unfold MaxW at b; unfold maxLen; omega) (Nat.le_refl _) fun w' hown hgr => ?_
  have e : (madeCells (Value.int .u64 0).cells (n * 1)).toList = vals (List.replicate n 0) := by
    rw [Nat.mul_one, show (Value.int .u64 0).cells = #[.int .u64 0] from rfl, toList_madeCells_one, vals, List.map_replicate]
  rw [e] at hown
  have hown' : Ow w.heap.size w' (.slice (some ⟨w.heap.size, 0, none⟩) n n) (List.replicate n 0) := by
    unfold Ow; rw [List.length_replicate]; exact hown
  refine hK w' hown' ?_ ?_
  · exact (Below.refl _ _).grown hgr (Nat.le_refl _) (fun k h => by cases h)
  · rcases hown.2 with ⟨h, _⟩ | ⟨g, cap, cur, hv, hb, hh, _⟩
    · simp at h
    · simp only [Value.slice.injEq, Option.some.injEq, Addr.mk.injEq, and_true] at hv
      obtain ⟨rfl, _⟩ := hv
      exact (Array.getElem?_eq_some_iff.1 hh).1

theorem addr_add_none (b o j : Nat) : (⟨b, o, none⟩ : Addr).add j = ⟨b, o + j, none⟩ := Addr.add_lit b o j

/-- copy(dst, src) between slices of words. -/
theorem wpList_copy_words {P : Program} {w : World} {ops : Array Oper} {rest : List Oper} {o : Oper} {a : Act} {Q : Exit → Act → World → Prop} (hgd : o.guard = none) (d s : Operand) (dT sT : TypeId)
    (ho : o.op = .call { callee := .builtin .copy, args := #[d, s], argTypes := #[dT, sT] }) (hu : P.underlying dT = some (.slice 57)) (hi : (P.info? 57).map (fun i => (i.zero, i.size, i.bytes)) = some (some (.int .u64 0), 1, 8))
    (g off dLen dCap : Nat) (sp : Option Addr) (sLen sCap : Nat) (hd : a.eval d = .slice (some ⟨g, off, none⟩) dLen dCap) (hs : a.eval s = .slice sp sLen sCap)
    (ld ls : List Int) (hld : ld.length = dLen) (hls : ls.length = sLen) (ha : Arr w g off ld) (hr : Rd w sp ls)
    (h : ∀ w', Arr w' g off (ls.take dLen ++ ld.drop sLen) → Only g off (off + dLen) w w' → wpList P ops Q rest (a.put o.dst (goInt (Nat.min sLen dLen))) w') : wpList P ops Q (o :: rest) a w := by
  have hsz : (P.info? 57).map (·.size) = some 1 := by
    obtain ⟨i, h2, h3, h4, h5⟩ := info_parts hi
    rw [h2]; simp [h4]
  by_cases h0 : Nat.min sLen dLen = 0
  · refine wpList_copy_nothing hgd d s dT sT ho 57 hu hsz (some ⟨g, off, none⟩) sp dLen dCap sLen sCap hd hs h0 ?_
    have := h w
    rw [h0] at this
    refine this ?_ (Only.refl _ _ _ _)
    rcases (show sLen = 0 ∨ dLen = 0 from by have : min sLen dLen = 0 := h0; omega) with e | e
    · obtain rfl : ls = [] := List.eq_nil_of_length_eq_zero (by omega)
      rw [e]; simpa using ha
    · obtain rfl : ld = [] := List.eq_nil_of_length_eq_zero (by omega)
      rw [e]; simpa using ha
  · have hls0 : ls ≠ [] := by intro e; subst e; simp at hls; subst hls; exact h0 (Nat.zero_min _)
    obtain ⟨b, o', rfl, hat⟩ := hr.cases hls0
    have ha' := ha
    obtain ⟨cur, e, hh, hl⟩ := ha
    have hlen : (vals (ls.take dLen)).length = Nat.min sLen dLen := by
      rw [length_vals, List.length_take, hls]; exact Nat.min_comm _ _
    have hmin : Nat.min sLen dLen = min sLen dLen := rfl
    have hfit : off + (vals (ls.take dLen)).length ≤ cur.size := by
      rw [hlen]
      have := hl (ld.length - 1) (by omega)
      have := (Array.getElem?_eq_some_iff.1 this).1
      omega
    refine wpList_copy_own hgd d s dT sT ho 57 hu hsz g off dLen dCap ⟨b, o', none⟩ sLen sCap hd hs cur e hh (vals (ls.take dLen)) hlen ?_ hfit (oneCell_vals _) ?_
    · intro j v hv
      have hj : j < (ls.take dLen).length := by have := (List.getElem?_eq_some_iff.1 hv).1; simpa [length_vals] using this
      rw [vals_get _ j hj] at hv
      cases hv
      rw [addr_add_none]
      exact hat.take dLen j hj
    · rw [hlen]
      refine h _ ?_ ?_
      · refine ⟨_, e, setRow_heap w g cur _ e _ hh, fun j hj => ?_⟩
        rw [List.length_append, List.length_take, List.length_drop] at hj
        rw [List.getElem?_toArray]
        rw [List.getElem?_append_right (by rw [List.length_take, Array.length_toList]; omega), List.length_take, Array.length_toList, Nat.min_eq_left (by omega), Nat.add_sub_cancel_left]
        by_cases hjm : j < Nat.min sLen dLen
        · rw [List.getElem?_append_left (by rw [hlen]; exact hjm), vals_get _ j (by rw [List.length_take]; omega)]
          congr 2
          rw [List.getD_eq_getElem?_getD, List.getD_eq_getElem?_getD, List.getElem?_append_left (by rw [List.length_take]; omega)]
        · rw [List.getElem?_append_right (by rw [hlen]; omega), List.getElem?_drop, hlen]
          have := hl j (by omega)
          rw [show off + Nat.min sLen dLen + (j - Nat.min sLen dLen) = off + j by omega, Array.getElem?_toList, this]
          congr 2
          rw [List.getD_eq_getElem?_getD, List.getD_eq_getElem?_getD, List.getElem?_append_right (by rw [List.length_take]; omega), List.getElem?_drop, List.length_take]
          congr 2
          omega
      · refine ⟨rfl, rfl, rfl, by simp, fun k _ hk => setRow_other w g k _ hk, fun c2 e2 hc2 => ?_⟩
        rw [hh] at hc2
        simp only [Option.some.injEq, Obj.cells.injEq, and_true] at hc2
        obtain ⟨rfl, rfl⟩ := hc2
        refine ⟨_, setRow_heap w g cur _ e _ hh, ?_, fun j hj => ?_⟩
        · simp only [List.size_toArray, List.length_append, List.length_take, List.length_drop, Array.length_toList]
          omega
        · rw [List.getElem?_toArray]
          rcases hj with hj | hj
          · by_cases hjc : j < cur.size
            · rw [List.getElem?_append_left (by rw [List.length_take, Array.length_toList]; omega), List.getElem?_take, if_pos hj, Array.getElem?_toList]
            · rw [List.getElem?_append_left (by rw [List.length_take, Array.length_toList]; omega), List.getElem?_take, if_pos hj, Array.getElem?_toList]
          · rw [List.getElem?_append_right (by rw [List.length_take, Array.length_toList]; omega), List.length_take, Array.length_toList, Nat.min_eq_left (by omega),
              List.getElem?_append_right (by rw [hlen]; omega), List.getElem?_drop, Array.getElem?_toList]
            congr 1
            rw [hlen]
            omega

/-- Draws turn no block. -/
theorem bdn {B : Nat} {a w : World} (h : Below B a w) (n : Nat) : Below B a (w.drewN n) := h.trans ⟨rfl, rfl, rfl, Nat.le_refl _, fun _ _ => rfl⟩

theorem Ow.alloc {base : Nat} {w : World} {v : Value} {l : List Int} (h : Ow base w v l) (o : Obj) : Ow base (w.alloc o) v l := World.ownsRow.alloc h o
theorem Ow.drew {base : Nat} {w : World} {v : Value} {l : List Int} (h : Ow base w v l) : Ow base w.drew v l := h
theorem Ow.block {base : Nat} {w : World} {v : Value} {l : List Int} (h : Ow base w v l) : ∀ k, v.ownBlock = some k → base ≤ k := by
  intro k hk
  rcases h.2 with ⟨rfl, _⟩ | ⟨g, cap, cur, rfl, hg, _⟩
  · simp [Value.ownBlock] at hk
  · simp only [Value.ownBlock, Option.some.injEq] at hk
    omega

/-- append(out, words ..), out of the call's own. -/
theorem wpList_append_words {P : Program} (w : World) {ops : Array Oper} {rest : List Oper} {o : Oper} {a : Act} {Q : Exit → Act → World → Prop} (hgd : o.guard = none) (s x : Operand) (t : TypeId)
    (ho : o.op = .call { callee := .builtin .append, args := #[s, x], argTypes := #[t, t] }) (ht : P.underlying t = some (.slice 57)) (hi : (P.info? 57).map (fun i => (i.zero, i.size, i.bytes)) = some (some (.int .u64 0), 1, 8))
    (base : Nat) (v : Value) (l : List Int) (hs : a.eval s = v) (hown : Ow base w v l)
    (ad : Addr) (m c : Nat) (lm : List Int) (hx : a.eval x = .slice (some ad) m c) (hm : lm.length = m) (hnews : ∀ j, j < lm.length → w.cell? (ad.add j) = some (.int .u64 (lm.getD j 0)))
    (hM : l.length + m ≤ MaxW) (hbase : base ≤ w.heap.size)
    (hK : ∀ v' w', Ow base w' v' (l ++ lm) → Below base w w' → wpList P ops Q rest (a.put o.dst v') w') : wpList P ops Q (o :: rest) a w := by
  obtain ⟨i, h2, h3, h4, h5⟩ := info_parts hi
  unfold MaxW at hM
  refine wpList_append_own w hgd s x t ho base 57 i (.int .u64 0) 1 8 ht h2 h3 h4 h5 rfl (by decide) v l.length (vals l) hs hown ad m c (vals lm) hx (by rw [length_vals, hm, Nat.mul_one]) ?_ (oneCell_vals _) (by unfold maxLen; omega) (by omega) hbase fun v' w' hown' hgr _ => ?_
  · intro j u hu
    have hj : j < lm.length := by have := (List.getElem?_eq_some_iff.1 hu).1; simpa [length_vals] using this
    rw [vals_get lm j hj] at hu
    cases hu
    exact hnews j hj
  · refine hK v' w' ?_ ((Below.refl _ _).grown hgr hbase hown.block)
    unfold Ow
    rw [List.length_append, hm, ← vals_append]
    exact hown'

/-- New words in a new block. -/
theorem news2 (w : World) (a b : Int) (t : TypeId) : ∀ j, j < [a, b].length → (w.alloc (.cells #[.int .u64 a, .int .u64 b] t)).cell? ((⟨w.heap.size, 0, none⟩ : Addr).add j) = some (.int .u64 ([a, b].getD j 0)) := by
  intro j hj
  rw [addr_add_none, Nat.zero_add, World.cell?_alloc_new]
  match j, hj with
  | 0, _ => rfl
  | 1, _ => rfl
theorem news1 (w : World) (a : Int) (t : TypeId) : ∀ j, j < [a].length → (w.alloc (.cells #[.int .u64 a] t)).cell? ((⟨w.heap.size, 0, none⟩ : Addr).add j) = some (.int .u64 ([a].getD j 0)) := by
  intro j hj
  rw [addr_add_none, Nat.zero_add, World.cell?_alloc_new]
  match j, hj with
  | 0, _ => rfl

/-- The same as one step of a region that draws its order. -/
theorem step_append_words {P : Program} (w : World) {ops : Array Oper} {o : Oper} {a : Act} {K : Act → World → Prop} {Q : Exit → Act → World → Prop} {E : Prop} (hgd : o.guard = none) (s x : Operand) (t : TypeId)
    (ho : o.op = .call { callee := .builtin .append, args := #[s, x], argTypes := #[t, t] }) (ht : P.underlying t = some (.slice 57)) (hi : (P.info? 57).map (fun i => (i.zero, i.size, i.bytes)) = some (some (.int .u64 0), 1, 8))
    (base : Nat) (v : Value) (l : List Int) (hs : a.eval s = v) (hown : Ow base w v l)
    (ad : Addr) (m c : Nat) (lm : List Int) (hx : a.eval x = .slice (some ad) m c) (hm : lm.length = m) (hnews : ∀ j, j < lm.length → w.cell? (ad.add j) = some (.int .u64 (lm.getD j 0)))
    (hM : l.length + m ≤ MaxW) (hbase : base ≤ w.heap.size)
    (hK : ∀ v' w', Ow base w' v' (l ++ lm) → Below base w w' → K (a.put o.dst v') w') : if Region.wanted o (yielded ops a.tmps) = true then Oper.wp P o a w K Q else E := by
  have hw : Region.wanted o (yielded ops a.tmps) = true := by simp [Region.wanted, hgd]
  rw [if_pos hw]
  obtain ⟨i, h2, h3, h4, h5⟩ := info_parts hi
  unfold MaxW at hM
  refine wp_append_own w s x t ho base 57 i (.int .u64 0) 1 8 ht h2 h3 h4 h5 rfl (by decide) v l.length (vals l) hs hown ad m c (vals lm) hx (by rw [length_vals, hm, Nat.mul_one]) ?_ (oneCell_vals _) (by unfold maxLen; omega) (by omega) hbase fun v' w' hown' hgr _ => ?_
  · intro j u hu
    have hj : j < lm.length := by have := (List.getElem?_eq_some_iff.1 hu).1; simpa [length_vals] using this
    rw [vals_get lm j hj] at hu
    cases hu
    exact hnews j hj
  · refine hK v' w' ?_ ((Below.refl _ _).grown hgr hbase hown.block)
    unfold Ow
    rw [List.length_append, hm, ← vals_append]
    exact hown'

/-- A slice value, and the words that it reads as. -/
def RdV (w : World) (v : Value) (l : List Int) : Prop := ∃ ao cap, v = .slice ao l.length cap ∧ l.length ≤ cap ∧ cap ≤ 9223372036854775807 ∧ Rd w ao l ∧ Lim B64 l
theorem RdV.below {w w' : World} {v : Value} {l : List Int} (h : RdV w v l) (hb : Below w.heap.size w w') : RdV w' v l := by
  obtain ⟨ao, cap, rfl, h1, h2, h3, h4⟩ := h
  exact ⟨ao, cap, rfl, h1, h2, h3.below hb, h4⟩
theorem Ow.rdv {base : Nat} {w : World} {v : Value} {l : List Int} (h : Ow base w v l) (hl : Lim B64 l) : RdV w v l := by
  obtain ⟨ao, cap, rfl, h1, h2, h3⟩ := h.form
  exact ⟨ao, cap, rfl, h1, h2, h3, hl⟩
theorem RdV.lim {w : World} {v : Value} {l : List Int} (h : RdV w v l) : Lim B64 l := by
  obtain ⟨ao, cap, rfl, h1, h2, h3, h4⟩ := h
  exact h4

/-- A slice of slices: the values in its cells. -/
def RdRow (w : World) (ao : Option Addr) (vs : List Value) : Prop := vs = [] ∨ ∃ b off, ao = some ⟨b, off, none⟩ ∧ ∀ j v, vs[j]? = some v → w.cell? ⟨b, off + j, none⟩ = some v
theorem RdRow.below {w w' : World} {ao : Option Addr} {vs : List Value} (h : RdRow w ao vs) (hb : Below w.heap.size w w') : RdRow w' ao vs := by
  rcases h with rfl | ⟨b, off, rfl, h⟩
  · exact Or.inl rfl
  · refine Or.inr ⟨b, off, rfl, fun j v hv => ?_⟩
    have hc := h j v hv
    rw [hb.cell (p := ⟨b, off + j, none⟩) (World.block_lt_of_cell? _ _ hc)]
    exact hc

/-- A function has returned a slice of its own, of words l; nothing that was there has turned. -/
def RetOw (w : World) (l : List Int) (e : Ending) (w' : World) : Prop := ∃ v, e = .returned v ∧ Ow w.heap.size w' v l ∧ Below w.heap.size w w'
/-- The same, the slice known by its number alone: no zeros at its end. -/
def RetNum (w : World) (N : Int) (e : Ending) (w' : World) : Prop := ∃ v l, e = .returned v ∧ Ow w.heap.size w' v l ∧ Can B64 l ∧ vb B64 l = N ∧ Below w.heap.size w w'

end Go.Proofs.Ytkkjkohmekbdbaa

namespace Go.Proofs.Ytkkjkohmekbdbaa
open Go.RowKit

/-- Bytes in a row that may be written. -/
def ArrB (w : World) (b off : Nat) (l : List Int) : Prop := ∃ (cur : Array Value) (e : TypeId), w.heap[b]? = some (.cells cur e (0, 0)) ∧ ∀ j, j < l.length → cur[off + j]? = some (.int .u8 (l.getD j 0))
def AtB (w : World) (b off : Nat) (l : List Int) : Prop := ∀ j, j < l.length → w.cell? ⟨b, off + j, none⟩ = some (.int .u8 (l.getD j 0))

theorem ArrB.at' {w : World} {b off : Nat} {l : List Int} (h : ArrB w b off l) : AtB w b off l := by
  obtain ⟨cur, e, hh, h⟩ := h
  intro j hj
  rw [cell_of_row w b _ cur e _ hh]
  exact h j hj
theorem ArrB.frozen {w : World} {b off : Nat} {l : List Int} (h : ArrB w b off l) (j : Nat) : w.frozen? ⟨b, j, none⟩ = false := by
  obtain ⟨cur, e, hh, h⟩ := h
  exact frozen_of_row w b j cur e hh
theorem ArrB.lt {w : World} {b off : Nat} {l : List Int} (h : ArrB w b off l) : b < w.heap.size := by
  obtain ⟨cur, e, hh, h⟩ := h
  exact (Array.getElem?_eq_some_iff.1 hh).1
theorem ArrB.store {w : World} {b off : Nat} {l : List Int} (h : ArrB w b off l) (k : Nat) (x : Int) : ArrB (w.setCell ⟨b, off + k, none⟩ (.int .u8 x)) b off (l.set k x) := by
  obtain ⟨cur, e, hc, hl⟩ := h
  refine ⟨_, e, heap_setCell_same w b (off + k) cur e _ hc, fun j hj => ?_⟩
  rw [List.length_set] at hj
  by_cases hjk : k = j
  · subst hjk
    have hlt : off + k < cur.size := (Array.getElem?_eq_some_iff.1 (hl k hj)).1
    rw [getD_set_same hj]
    simp [hlt]
  · rw [getD_set_other l hjk, Array.getElem?_setIfInBounds, if_neg (by omega)]
    exact hl j hj
theorem ArrB.drop {w : World} {b off : Nat} {l : List Int} (h : ArrB w b off l) (k : Nat) : ArrB w b (off + k) (l.drop k) := by
  obtain ⟨cur, e, hh, h⟩ := h
  refine ⟨cur, e, hh, fun j hj => ?_⟩
  rw [List.length_drop] at hj
  rw [getD_drop, Nat.add_assoc]
  exact h _ (by omega)
theorem ArrB.take {w : World} {b off : Nat} {l : List Int} (h : ArrB w b off l) (k : Nat) : ArrB w b off (l.take k) := by
  obtain ⟨cur, e, hh, h⟩ := h
  refine ⟨cur, e, hh, fun j hj => ?_⟩
  rw [List.length_take] at hj
  rw [getD_take (by omega)]
  exact h _ (by omega)
theorem ArrB.below {B : Nat} {w w' : World} {b off : Nat} {l : List Int} (h : ArrB w b off l) (hb : Below B w w') (hlt : b < B) : ArrB w' b off l := by
  obtain ⟨cur, e, hh, h⟩ := h
  exact ⟨cur, e, (hb.block b hlt).trans hh, h⟩

/-- As 'Only', but of blocks from B on nothing is said. -/
structure OnlyB (B b lo hi : Nat) (w w' : World) : Prop where
  os : w'.os = w.os
  tape : w'.tape = w.tape
  output : w'.output = w.output
  size : w.heap.size ≤ w'.heap.size
  block : ∀ k, k < B → k ≠ b → w'.heap[k]? = w.heap[k]?
  row : ∀ cur e, w.heap[b]? = some (.cells cur e (0, 0)) → ∃ cur', w'.heap[b]? = some (.cells cur' e (0, 0)) ∧ cur'.size = cur.size ∧ ∀ j, j < lo ∨ hi ≤ j → cur'[j]? = cur[j]?

theorem OnlyB.refl (B b lo hi : Nat) (w : World) : OnlyB B b lo hi w w := ⟨rfl, rfl, rfl, Nat.le_refl _, fun _ _ _ => rfl, fun cur _ h => ⟨cur, h, rfl, fun _ _ => rfl⟩⟩
theorem OnlyB.trans {B b lo hi : Nat} {u v w : World} (h : OnlyB B b lo hi u v) (k : OnlyB B b lo hi v w) : OnlyB B b lo hi u w := by
  refine ⟨k.os.trans h.os, k.tape.trans h.tape, k.output.trans h.output, Nat.le_trans h.size k.size, fun i hi hb => (k.block i hi hb).trans (h.block i hi hb), fun cur e hc => ?_⟩
  obtain ⟨c1, h1, s1, g1⟩ := h.row cur e hc
  obtain ⟨c2, h2, s2, g2⟩ := k.row c1 e h1
  exact ⟨c2, h2, s2.trans s1, fun j hj => (g2 j hj).trans (g1 j hj)⟩
theorem OnlyB.of_below {B b lo hi : Nat} {u v : World} (h : Below B u v) (hb : b < B) : OnlyB B b lo hi u v :=
  ⟨h.os, h.tape, h.output, h.size, fun k hk _ => h.block k hk, fun cur _ hc => ⟨cur, (h.block b hb).trans hc, rfl, fun _ _ => rfl⟩⟩
theorem OnlyB.of_only {B b lo hi : Nat} {u v : World} (h : Only b lo hi u v) (hB : B ≤ u.heap.size) : OnlyB B b lo hi u v :=
  ⟨h.os, h.tape, h.output, h.size, fun k hk => h.block k (by omega), h.row⟩
theorem OnlyB.only {b lo hi : Nat} {u v : World} (h : OnlyB u.heap.size b lo hi u v) : Only b lo hi u v :=
  ⟨h.os, h.tape, h.output, h.size, h.block, h.row⟩
theorem OnlyB.mono {B b lo hi lo' hi' : Nat} {u v : World} (h : OnlyB B b lo hi u v) (h1 : lo' ≤ lo) (h2 : hi ≤ hi') : OnlyB B b lo' hi' u v :=
  ⟨h.os, h.tape, h.output, h.size, h.block, fun cur e hc => by
    obtain ⟨c, a, s, g⟩ := h.row cur e hc
    exact ⟨c, a, s, fun j hj => g j (by omega)⟩⟩
theorem OnlyB.below {B B' b lo hi : Nat} {u v : World} (h : OnlyB B b lo hi u v) (hb : B' ≤ b) (hB : B' ≤ B) : Below B' u v :=
  ⟨h.os, h.tape, h.output, h.size, fun k hk => h.block k (by omega) (by omega)⟩

end Go.Proofs.Ytkkjkohmekbdbaa
