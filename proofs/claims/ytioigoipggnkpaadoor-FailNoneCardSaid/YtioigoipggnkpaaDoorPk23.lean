/-
  Fail2: Package fail: the texts of errors.
  Fail3: Package fail: the loop of text.
  Fail4: compasslaw6: alive; the statement FailNone.
-/
import Derived.Test.YtioigoipggnkpaaDoorPk5
import Derived.Test.YtioigoipggnkpaaDoorPk6
import Derived.Test.YtioigoipggnkpaaDoorPk22
import Derived.Lib.AppendStr
import Derived.Lib.AppendIntMem
import Derived.Lib.ItoaLen
import Derived.Laws.IdiomStrings
import Derived.Test.YtioigoipggnkpaaDoorPk21

namespace Go.Proofs.YtioigoipggnkpaaDoor
open Go.RowKit

def nodeB : ByteArray := ⟨#[110, 111, 100, 101, 32]⟩
def sepB : ByteArray := ⟨#[58, 32]⟩
def noneB : ByteArray := ⟨#[110, 111, 110, 101]⟩
theorem kindS_size (i : Nat) (hi : i < 7) : 0 < (kindS i).size ∧ (kindS i).size ≤ 40 := by
  match i, hi with
  | 0, _ => decide
  | 1, _ => decide
  | 2, _ => decide
  | 3, _ => decide
  | 4, _ => decide
  | 5, _ => decide
  | 6, _ => decide
/-- (kind).Error. -/
theorem kind_error (i : Nat) (hi : i < 7) (w : World) : Calls Tryd.prog 78 #[.int .i64 ((i + 1 : Nat) : Int)] w fun e w' => e = .returned (.string (kindS i)) ∧ w' = w := by
  match i, hi with
  | 0, _ =>
    show Calls Tryd.prog 78 #[.int .i64 1] w _
    go_enter Tryd.func78, Tryd.ntmps78
    go_wp2_with fail
    go_ret
    exact ⟨rfl, rfl⟩
  | 1, _ =>
    show Calls Tryd.prog 78 #[.int .i64 2] w _
    go_enter Tryd.func78, Tryd.ntmps78
    go_wp2_with fail
    go_ret
    exact ⟨rfl, rfl⟩
  | 2, _ =>
    show Calls Tryd.prog 78 #[.int .i64 3] w _
    go_enter Tryd.func78, Tryd.ntmps78
    go_wp2_with fail
    go_ret
    exact ⟨rfl, rfl⟩
  | 3, _ =>
    show Calls Tryd.prog 78 #[.int .i64 4] w _
    go_enter Tryd.func78, Tryd.ntmps78
    go_wp2_with fail
    go_ret
    exact ⟨rfl, rfl⟩
  | 4, _ =>
    show Calls Tryd.prog 78 #[.int .i64 5] w _
    go_enter Tryd.func78, Tryd.ntmps78
    go_wp2_with fail
    go_ret
    exact ⟨rfl, rfl⟩
  | 5, _ =>
    show Calls Tryd.prog 78 #[.int .i64 6] w _
    go_enter Tryd.func78, Tryd.ntmps78
    go_wp2_with fail
    go_ret
    exact ⟨rfl, rfl⟩
  | 6, _ =>
    show Calls Tryd.prog 78 #[.int .i64 7] w _
    go_enter Tryd.func78, Tryd.ntmps78
    go_wp2_with fail
    go_ret
    exact ⟨rfl, rfl⟩
theorem methodErrorK (v : Value) (w : World) : (Go.method 241 49 v "Error").run Tryd.prog w = .ok (78, v) w := by kernel_rfl
theorem methodErrorA (v : Value) (w : World) : (Go.method 241 42 v "Error").run Tryd.prog w = .ok (18, v) w := by kernel_rfl
theorem methodErrorW (v : Value) (w : World) : (Go.method 241 57 v "Error").run Tryd.prog w = .ok (80, v) w := by kernel_rfl
set_option maxRecDepth 100000 in
theorem plain_nil (w : World) : Calls Tryd.prog 42 #[.nilIface] w fun e w' => e = .returned (.string noneB) ∧ Below w.heap.size w w' := by
  have hm := hmf
  go_enter_defers Tryd.func42, Tryd.ntmps42
  go_wp2_with fail
  refine leaves_cons (f := 48) (args := #[.pointer (some ⟨w.heap.size, 0, none⟩)]) (by simp) (by simp [go_sem]) ?_
  refine (plain_idle _ _).mono ?_
  rintro e u' w'' ⟨rfl, rfl, rfl⟩
  simp [Leaves, settle, results, Tryd.results42, go_sem]
  exact ⟨rfl, below_alloc w _⟩
set_option maxRecDepth 100000 in
theorem plain_kind (i : Nat) (hi : i < 7) (w : World) : Calls Tryd.prog 42 #[kv i] w fun e w' => e = .returned (.string (kindS i)) ∧ Below w.heap.size w w' := by
  have hm := hmf
  have mK := methodErrorK
  have HE := Lib.hid (fun w => kind_error i hi w)
  unfold kv
  obtain ⟨c, hc⟩ : ∃ c : Int, ((i + 1 : Nat) : Int) = c := ⟨_, rfl⟩
  rw [hc] at HE ⊢
  clear hc
  go_enter_defers Tryd.func42, Tryd.ntmps42
  go_wp2_with fail
  refine (HE.out _).mono ?_
  rintro e w' ⟨rfl, rfl⟩
  go_wp2_with fail
  refine leaves_cons (f := 48) (args := #[.pointer (some ⟨w.heap.size, 0, none⟩)]) (by simp) (by simp [go_sem]) ?_
  refine (plain_idle _ _).mono ?_
  rintro e u' w'' ⟨rfl, rfl, rfl⟩
  simp [Leaves, settle, results, Tryd.results42, go_sem]
  exact below_alloc w _
/-- The table that strconv.AppendInt reads. -/
abbrev PowTab (w : World) : Prop := Lib.TabIs Tryd.prog w "internal/strconv.uint64pow10" .u64 Lib.pow10Tab
theorem PowTab.under {w w' : World} (h : PowTab w) (hb : Below w.heap.size w w') : PowTab w' := Lib.tabBelow_of_tabIs h w' hb
set_option maxRecDepth 100000 in
/-- strconv.AppendInt at base 10, of a number below 100: no table is asked. -/
theorem appendInt_small (B n u : Nat) (hu : u < 100) (sv : Value) (xs : List Value) (w : World) (hown : w.ownsRow B 5 1 sv n xs) (hBw : B ≤ w.heap.size) (hlim : n + 20 ≤ 140737488355328) :
    Calls Tryd.prog 41 #[sv, .int .i64 (u : Int), .int .i64 10] w fun e w' => ∃ v', e = .returned v' ∧ w'.ownsRow B 5 1 v' (n + (Lib.itoa u).length) (xs ++ Lib.byteCells (Lib.itoa u)) ∧ Below B w w' := by
  have HC := Lib.hid (Tryd.internal_strconv_AppendUint_10_small B n u hu sv xs w hown hBw hlim)
  rw [Lib.itoa_nonneg]
  have in1 : ∀ args w, (callFunc 47 args).run Tryd.prog w = .ok (.enter 47 args) w := by intro args w; kernel_rfl
  obtain ⟨z, hz⟩ : ∃ z : Int, (u : Int) = z := ⟨_, rfl⟩
  have hz0 : 0 ≤ z := by omega
  have hz1 : z < 100 := by omega
  have hwr : IntKind.u64.wrap z = z := by rw [IntKind.wrap_u64]; omega
  rw [hz] at HC ⊢
  clear hz
  have inner : Calls Tryd.prog 47 #[sv, .int .i64 z, .int .i64 10] w fun e w' => ∃ v', e = .returned v' ∧ w'.ownsRow B 5 1 v' (n + (Lib.decDigits u).length) (xs ++ Lib.byteCells (Lib.decDigits u)) ∧ Below B w w' := by
    clear hown
    go_enter Tryd.func47, Tryd.ntmps47
    go_wp2_with fail
    refine HC.out.mono ?_
    rintro e w' ⟨v', rfl, h1, h2, -⟩
    go_wp2_with fail
    go_ret
    exact ⟨v', rfl, h1, h2⟩
  have HI := Lib.hid inner
  clear inner hown in1
  go_enter Tryd.func41, Tryd.ntmps41
  go_wp2_with fail
  refine HI.out.mono ?_
  rintro e w' ⟨v', rfl, h1, h2⟩
  go_wp2_with fail
  go_ret
  exact ⟨v', rfl, h1, h2⟩
/-- Either the table reads as it is laid (S), or the number is small. -/
theorem appendInt_any {S : Prop} (B n : Nat) (i : Int) (h0 : -9223372036854775808 ≤ i) (h1 : i ≤ 9223372036854775807) (hS : S ∨ (0 ≤ i ∧ i < 100)) (sv : Value) (xs : List Value) (w : World) (hown : w.ownsRow B 5 1 sv n xs) (hBw : B ≤ w.heap.size) (hlim : n + 21 ≤ 140737488355328)
    (hT : S → Lib.TabBelow Tryd.prog B w "internal/strconv.uint64pow10" .u64 Lib.pow10Tab) :
    Calls Tryd.prog 41 #[sv, .int .i64 i, .int .i64 10] w fun e w' => ∃ v', e = .returned v' ∧ w'.ownsRow B 5 1 v' (n + (Lib.itoa i).length) (xs ++ Lib.byteCells (Lib.itoa i)) ∧ Below B w w' := by
  rcases hS with hS | ⟨h2, h3⟩
  · refine (Tryd.strconv_AppendInt_10 B n i h0 h1 sv xs w hown hBw hlim (hT hS)).mono ?_
    rintro e w' ⟨v', rfl, h1, h2, -⟩
    exact ⟨v', rfl, h1, h2⟩
  · obtain ⟨u, rfl⟩ := Int.eq_ofNat_of_zero_le h2
    exact appendInt_small B n u (by omega) sv xs w hown hBw (by omega)
theorem tw_size (n : Int) (h0 : -9223372036854775808 ≤ n) (h1 : n ≤ 9223372036854775807) : (tw n).size ≤ 40 := by
  have e : B64 ^ 1 = 18446744073709551616 := by decide
  unfold tw
  by_cases h : n < 0
  · rw [if_pos h, ByteArray.size_append]
    have := dec_small (N := -n) (by omega) (by omega)
    have e1 : (⟨#[45]⟩ : ByteArray).size = 1 := rfl
    omega
  · rw [if_neg h]
    have := dec_small (N := n) (by omega) (by omega)
    omega
end Go.Proofs.YtioigoipggnkpaaDoor

namespace Go.Proofs.YtioigoipggnkpaaDoor
open Go.RowKit

def nodeT : List UInt8 := [110, 111, 100, 101, 32]
def sepT : List UInt8 := [58, 32]
def noneT : List UInt8 := [110, 111, 110, 101]
/-- The text of an error of k parts; its numbers are small, or S holds (then AppendInt's table is asked). -/
inductive Tx (S : Prop) (w : World) : Value → List UInt8 → Nat → Prop where
  | nil : Tx S w .nilIface noneT 1
  | kind {i : Nat} : i < 7 → Tx S w (kv i) (kindT i) 1
  | gone : Tx S w (.iface 42 (.pointer none)) noneT 1
  | node {p k : Nat} {n : Int} {v : Value} {s : List UInt8} : w.cell? ⟨p, 0, none⟩ = some (.int .i64 n) → w.cell? ⟨p, 1, none⟩ = some v → -9223372036854775808 ≤ n → n ≤ 9223372036854775807 → (S ∨ (0 ≤ n ∧ n < 100)) → Tx S w v s k → Tx S w (.iface 42 (.pointer (some ⟨p, 0, none⟩))) (nodeT ++ Lib.itoa n ++ sepT ++ s) (k + 1)
  | said {p k : Nat} {v : Value} {r : ByteArray} {s : List UInt8} : w.cell? ⟨p, 0, none⟩ = some (.string r) → w.cell? ⟨p, 1, none⟩ = some v → Tx S w v s k → Tx S w (.iface 57 (.pointer (some ⟨p, 0, none⟩))) (r.data.toList ++ sepT ++ s) (k + 1)
theorem Tx.under {S : Prop} {w w' : World} {v : Value} {s : List UInt8} {k : Nat} (h : Tx S w v s k) (hb : Below w.heap.size w w') : Tx S w' v s k := by
  induction h with
  | nil => exact .nil
  | kind h => exact .kind h
  | gone => exact .gone
  | node h1 h2 h3 h4 h5 _ ih => exact .node (cell_under hb h1) (cell_under hb h2) h3 h4 h5 ih
  | said h1 h2 _ ih => exact .said (cell_under hb h1) (cell_under hb h2) ih
theorem Tx.open {S : Prop} {w : World} {v : Value} {s : List UInt8} {k : Nat} (h : Tx S w v s k) :
    (v = .nilIface ∧ s = noneT) ∨ (∃ i, i < 7 ∧ v = kv i ∧ s = kindT i) ∨ (v = .iface 42 (.pointer none) ∧ s = noneT) ∨
    (∃ p k2 n v2 s2, k = k2 + 1 ∧ v = .iface 42 (.pointer (some ⟨p, 0, none⟩)) ∧ s = nodeT ++ Lib.itoa n ++ sepT ++ s2 ∧ w.cell? ⟨p, 0, none⟩ = some (.int .i64 n) ∧ w.cell? ⟨p, 1, none⟩ = some v2 ∧ -9223372036854775808 ≤ n ∧ n ≤ 9223372036854775807 ∧ (S ∨ (0 ≤ n ∧ n < 100)) ∧ Tx S w v2 s2 k2) ∨
    (∃ p k2 v2 r s2, k = k2 + 1 ∧ v = .iface 57 (.pointer (some ⟨p, 0, none⟩)) ∧ s = r.data.toList ++ sepT ++ s2 ∧ w.cell? ⟨p, 0, none⟩ = some (.string r) ∧ w.cell? ⟨p, 1, none⟩ = some v2 ∧ Tx S w v2 s2 k2) := by
  cases h with
  | nil => exact Or.inl ⟨rfl, rfl⟩
  | kind h => exact Or.inr (Or.inl ⟨_, h, rfl, rfl⟩)
  | gone => exact Or.inr (Or.inr (Or.inl ⟨rfl, rfl⟩))
  | node h1 h2 h3 h4 h5 h6 => exact Or.inr (Or.inr (Or.inr (Or.inl ⟨_, _, _, _, _, rfl, rfl, rfl, h1, h2, h3, h4, h5, h6⟩)))
  | said h1 h2 h3 => exact Or.inr (Or.inr (Or.inr (Or.inr ⟨_, _, _, _, _, rfl, rfl, rfl, h1, h2, h3⟩)))
theorem taNA (w : World) : (Instr.typeAssert .nilIface 28 42 true).run Tryd.prog w = .ok (.tuple #[.pointer none, .bool false]) w := by kernel_rfl
theorem taNW (w : World) : (Instr.typeAssert .nilIface 28 57 true).run Tryd.prog w = .ok (.tuple #[.pointer none, .bool false]) w := by kernel_rfl
theorem taKA (v : Value) (w : World) : (Instr.typeAssert (.iface 49 v) 28 42 true).run Tryd.prog w = .ok (.tuple #[.pointer none, .bool false]) w := by kernel_rfl
theorem taKW (v : Value) (w : World) : (Instr.typeAssert (.iface 49 v) 28 57 true).run Tryd.prog w = .ok (.tuple #[.pointer none, .bool false]) w := by kernel_rfl
theorem taAA (v : Value) (w : World) : (Instr.typeAssert (.iface 42 v) 28 42 true).run Tryd.prog w = .ok (.tuple #[v, .bool true]) w := by kernel_rfl
theorem taWA (v : Value) (w : World) : (Instr.typeAssert (.iface 57 v) 28 42 true).run Tryd.prog w = .ok (.tuple #[.pointer none, .bool false]) w := by kernel_rfl
theorem taWW (v : Value) (w : World) : (Instr.typeAssert (.iface 57 v) 28 57 true).run Tryd.prog w = .ok (.tuple #[v, .bool true]) w := by kernel_rfl
theorem infoB : (Tryd.prog.info? 5).map (fun i => (i.zero, i.size, i.bytes)) = some (some (.int .u8 0), 1, 1) := by kernel_rfl
/-- The bytes written so far, in a row of the call's own. -/
def Out (B : Nat) (w : World) (v : Value) (l : List UInt8) : Prop := w.ownsRow B 5 1 v l.length (Lib.byteCells l)
theorem Out.put {B : Nat} {w' : World} {v' : Value} {l : List UInt8} {s : ByteArray} (h : w'.ownsRow B 5 1 v' (l.length + s.size) (Lib.byteCells l ++ Lib.strCells s)) : Out B w' v' (l ++ s.data.toList) := by
  unfold Out
  rw [List.length_append, Lib.byteCells_append, show s.data.toList.length = s.size from Array.length_toList]
  exact h
theorem Out.num {B : Nat} {w' : World} {v' : Value} {l m : List UInt8} (h : w'.ownsRow B 5 1 v' (l.length + m.length) (Lib.byteCells l ++ Lib.byteCells m)) : Out B w' v' (l ++ m) := by
  unfold Out
  rw [List.length_append, Lib.byteCells_append]
  exact h
/-- string(out). -/
theorem Out.text {B : Nat} {w : World} {v : Value} {l : List UInt8} (h : Out B w v l) (hl : 0 < l.length) : ∃ g n cap, v = .slice (some ⟨g, 0, none⟩) n cap ∧ (convert 86 9 (.slice (some ⟨g, 0, none⟩) n cap)).run Tryd.prog w = .ok (.string ⟨l.toArray⟩) w := by
  have hown := h
  rcases h.2 with ⟨-, h0⟩ | ⟨g, cap, cur, rfl, -, -, -, -, -, -⟩
  · omega
  · exact ⟨g, l.length, cap, rfl, run_convert_bytes_back (P := Tryd.prog) w 86 9 5 ⟨g, 0, none⟩ cap l Tryd.underlying86 Tryd.underlying5 Tryd.underlying9 (fun j hj => hown.cells (g := g) rfl j _ (by simp [Lib.byteCells, hj]))⟩
theorem Out.keep {B : Nat} {w w' : World} {v : Value} {l : List UInt8} (h : Out B w v l) (hb : Below w.heap.size w w') : Out B w' v l := by
  obtain ⟨hl, h0 | ⟨g, cap, cur, hv, hB, hh, r⟩⟩ := h
  · exact ⟨hl, .inl h0⟩
  · exact ⟨hl, .inr ⟨g, cap, cur, hv, hB, (hb.block g (Array.getElem?_eq_some_iff.1 hh).1).trans hh, r⟩⟩
theorem Out.below {B : Nat} {W w w' : World} {v : Value} {l : List UInt8} (h : Out B w v l) (hb : Below B W w) (hg : w.grownBy w' v.ownBlock) (hB : B ≤ W.heap.size) : Below B W w' :=
  hb.grown hg (Nat.le_trans hB hb.size) (fun k hk => (h.lt k hk).1)
set_option maxRecDepth 100000 in
set_option maxHeartbeats 4000000 in
theorem text_of {S : Prop} {w : World} {v : Value} {T : List UInt8} {k : Nat} (h : Tx S w v T k) (hT : T.length ≤ 1000000) (hP : S → PowTab w) :
    Calls Tryd.prog 36 #[v] w fun e w' => e = .returned (.string ⟨T.toArray⟩) ∧ Below w.heap.size w w' := by
  have HH := Lib.hid h
  have HP := Lib.hid (fun hs => Lib.tabBelow_of_tabIs (hP hs))
  clear h hP
  obtain ⟨i0, hi, hz0, hz1, hz2⟩ := info_parts infoB
  go_enter Tryd.func36, Tryd.ntmps36
  go_wp2_with fail
  go_loopg [0, 3, 4, 5, 6] k (fun kd e0 out _ _ _ wr => ∃ acc s, Hid (Tx S w e0 s kd) ∧ Hid (acc ++ s = T) ∧ Hid (Out w.heap.size wr out acc) ∧ Hid (Below w.heap.size w wr))
  case atStart => exact ⟨[], T, HH, Lib.hid rfl, Lib.hid (World.ownsRow_nil _ _ _ _), Lib.hid (Below.refl _ _)⟩
  case round =>
    obtain ⟨acc, s, HX, HE, HO, HB⟩ := hrel
    clear HH
    have hx := HX.out
    clear HX
    have hacc : acc.length + s.length = T.length := by rw [← HE.out, List.length_append]
    rcases hx.open with ⟨rfl, rfl⟩ | ⟨i, hi7, rfl, rfl⟩ | ⟨rfl, rfl⟩ | ⟨p, k2, n, v2, s2, rfl, rfl, rfl, c0, c1, hn0, hn1, hsm, h2⟩ | ⟨p, k2, v2, r, s2, rfl, rfl, rfl, c0, c1, h2⟩
    · clear hx
      have t1 := taNA
      have t2 := taNW
      go_wp2_with fail
      refine (plain_nil _).mono ?_
      rintro e w1 ⟨rfl, hb1⟩
      have HO1 := Lib.hid (HO.out.keep hb1)
      have HB1 := Lib.hid (HB.out.trans (hb1.mono HB.out.size))
      clear hb1
      go_wp2_with (at_builtin; refine Lib.wpList_append_own_string _ rfl _ _ 86 9 rfl w.heap.size 5 i0 Tryd.underlying86 Tryd.underlying9 hi hz0 hz1 hz2 _ _ _ rfl HO1.out noneB rfl (by rw [show noneB.size = 4 by decide]; unfold maxLen; omega) (by rw [show noneB.size = 4 by decide]; omega) HB1.out.size ?_)
      intro v2 w2 ho2 hg2 _
      have HO2 := Lib.hid (Out.put ho2)
      have HB2 := Lib.hid (HO1.out.below HB1.out hg2 (Nat.le_refl _))
      rw [show acc ++ noneB.data.toList = T from HE.out] at HO2
      obtain ⟨g, n, cap, rfl, hcv⟩ := HO2.out.text (by rw [← hacc]; simp [noneT])
      clear ho2 hg2
      go_wp2_with fail
      go_ret
      exact ⟨rfl, HB2.out⟩
    · clear hx
      have t1 := taKA
      have t2 := taKW
      have hk := (kindS_size i hi7).2
      have hk0 := (kindS_size i hi7).1
      have HPK := Lib.hid (fun w => plain_kind i hi7 w)
      unfold kv at HPK ⊢
      obtain ⟨c, hc⟩ : ∃ c : Int, ((i + 1 : Nat) : Int) = c := ⟨_, rfl⟩
      rw [hc] at HPK ⊢
      clear hc
      go_wp2_with fail
      refine (HPK.out _).mono ?_
      rintro e w1 ⟨rfl, hb1⟩
      have HO1 := Lib.hid (HO.out.keep hb1)
      have HB1 := Lib.hid (HB.out.trans (hb1.mono HB.out.size))
      clear hb1
      go_wp2_with (at_builtin; refine Lib.wpList_append_own_string _ rfl _ _ 86 9 rfl w.heap.size 5 i0 Tryd.underlying86 Tryd.underlying9 hi hz0 hz1 hz2 _ _ _ rfl HO1.out (kindS i) rfl (by unfold maxLen; omega) (by omega) HB1.out.size ?_)
      intro v2 w2 ho2 hg2 _
      have HO2 := Lib.hid (Out.put ho2)
      have HB2 := Lib.hid (HO1.out.below HB1.out hg2 (Nat.le_refl _))
      rw [show acc ++ (kindS i).data.toList = T from HE.out] at HO2
      have hkl : (kindT i).length = (kindS i).size := by simp [kindS, ByteArray.size]
      obtain ⟨g, n, cap, rfl, hcv⟩ := HO2.out.text (by rw [← hacc]; omega)
      clear ho2 hg2
      go_wp2_with fail
      go_ret
      exact ⟨rfl, HB2.out⟩
    · clear hx
      have t1 := taAA
      go_wp2_with (at_builtin; refine Lib.wpList_append_own_string _ rfl _ _ 86 9 rfl w.heap.size 5 i0 Tryd.underlying86 Tryd.underlying9 hi hz0 hz1 hz2 _ _ _ rfl HO.out noneB rfl (by rw [show noneB.size = 4 by decide]; unfold maxLen; omega) (by rw [show noneB.size = 4 by decide]; omega) HB.out.size ?_)
      intro v2 w2 ho2 hg2 _
      have HO2 := Lib.hid (Out.put ho2)
      have HB2 := Lib.hid (HO.out.below HB.out hg2 (Nat.le_refl _))
      rw [show acc ++ noneB.data.toList = T from HE.out] at HO2
      obtain ⟨g, n, cap, rfl, hcv⟩ := HO2.out.text (by rw [← hacc]; simp [noneT])
      clear ho2 hg2
      go_wp2_with fail
      go_ret
      exact ⟨rfl, HB2.out⟩
    · have H2 := Lib.hid h2
      have HC0 := Lib.hid c0
      have HC1 := Lib.hid c1
      have hnl := Lib.itoa_length_le n hn0 hn1
      have hl2 : (nodeT ++ Lib.itoa n ++ sepT ++ s2).length = 5 + (Lib.itoa n).length + 2 + s2.length := by simp [nodeT, sepT]; omega
      rw [hl2] at hacc
      have HSM := Lib.hid hsm
      clear hx h2 c0 c1 hl2 hsm
      have t1 := taAA
      go_wp2_with (at_builtin; refine Lib.wpList_append_own_string _ rfl _ _ 86 9 rfl w.heap.size 5 i0 Tryd.underlying86 Tryd.underlying9 hi hz0 hz1 hz2 _ _ _ rfl HO.out nodeB rfl (by rw [show nodeB.size = 5 by decide]; unfold maxLen; omega) (by rw [show nodeB.size = 5 by decide]; omega) HB.out.size ?_)
      intro v3 w3 ho3 hg3 _
      have HO3 := Lib.hid (Out.put ho3)
      have HB3 := Lib.hid (HO.out.below HB.out hg3 (Nat.le_refl _))
      have hA3 : (acc ++ nodeB.data.toList).length = acc.length + 5 := by rw [List.length_append]; rfl
      obtain ⟨acc3, ha3⟩ : ∃ l, acc ++ nodeB.data.toList = l := ⟨_, rfl⟩
      rw [ha3] at HO3 hA3
      have HA3 := Lib.hid ha3
      clear ho3 hg3 ha3
      have c0 := cell_under HB3.out HC0.out
      go_wp2_with fail
      refine (appendInt_any w.heap.size _ n hn0 hn1 HSM.out v3 _ w3 HO3.out HB3.out.size (by omega) (fun hs => (HP.out hs).on HB3.out)).mono ?_
      rintro e w4 ⟨v4, rfl, ho4, hb4⟩
      have HO4 := Lib.hid (Out.num ho4)
      have HB4 := Lib.hid (HB3.out.trans hb4)
      have hA4 : (acc3 ++ Lib.itoa n).length = acc.length + 5 + (Lib.itoa n).length := by rw [List.length_append, hA3]
      obtain ⟨acc4, ha4⟩ : ∃ l, acc3 ++ Lib.itoa n = l := ⟨_, rfl⟩
      rw [ha4] at HO4 hA4
      have HA4 := Lib.hid ha4
      clear ho4 hb4 ha4 c0
      go_wp2_with (at_builtin; refine Lib.wpList_append_own_string _ rfl _ _ 86 9 rfl w.heap.size 5 i0 Tryd.underlying86 Tryd.underlying9 hi hz0 hz1 hz2 _ _ _ rfl HO4.out sepB rfl (by rw [show sepB.size = 2 by decide]; unfold maxLen; omega) (by rw [show sepB.size = 2 by decide]; omega) HB4.out.size ?_)
      intro v5 w5 ho5 hg5 _
      have HO5 := Lib.hid (Out.put (l := acc4) (s := sepB) (by rw [hA4]; exact ho5))
      have HB5 := Lib.hid (HO4.out.below HB4.out hg5 (Nat.le_refl _))
      clear ho5 hg5
      have c1 := cell_under HB5.out HC1.out
      go_wp2_with fail
      go_roundg k2
      case measure => omega
      case rel =>
        refine ⟨_, s2, H2, Lib.hid ?_, HO5, HB5⟩
        rw [← HE.out, ← HA4.out, ← HA3.out]
        simp [nodeB, nodeT, sepB, sepT]
    · have H2 := Lib.hid h2
      have HC0 := Lib.hid c0
      have HC1 := Lib.hid c1
      have hl2 : (r.data.toList ++ sepT ++ s2).length = r.size + 2 + s2.length := by
        rw [List.length_append, List.length_append, show r.data.toList.length = r.size from Array.length_toList]; rfl
      rw [hl2] at hacc
      have c0' := cell_under HB.out c0
      clear hx h2 c0 c1 hl2
      have t1 := taWA
      have t2 := taWW
      go_wp2_with (at_builtin; refine Lib.wpList_append_own_string _ rfl _ _ 86 9 rfl w.heap.size 5 i0 Tryd.underlying86 Tryd.underlying9 hi hz0 hz1 hz2 _ _ _ rfl HO.out r rfl (by unfold maxLen; omega) (by omega) HB.out.size ?_)
      intro v4 w4 ho4 hg4 _
      have HO4 := Lib.hid (Out.put ho4)
      have HB4 := Lib.hid (HO.out.below HB.out hg4 (Nat.le_refl _))
      have hA4 : (acc ++ r.data.toList).length = acc.length + r.size := by rw [List.length_append]; rfl
      obtain ⟨acc4, ha4⟩ : ∃ l, acc ++ r.data.toList = l := ⟨_, rfl⟩
      rw [ha4] at HO4 hA4
      have HA4 := Lib.hid ha4
      clear ho4 hg4 ha4 c0'
      go_wp2_with (at_builtin; refine Lib.wpList_append_own_string _ rfl _ _ 86 9 rfl w.heap.size 5 i0 Tryd.underlying86 Tryd.underlying9 hi hz0 hz1 hz2 _ _ _ rfl HO4.out sepB rfl (by rw [show sepB.size = 2 by decide]; unfold maxLen; omega) (by rw [show sepB.size = 2 by decide]; omega) HB4.out.size ?_)
      intro v5 w5 ho5 hg5 _
      have HO5 := Lib.hid (Out.put (l := acc4) (s := sepB) (by rw [hA4]; exact ho5))
      have HB5 := Lib.hid (HO4.out.below HB4.out hg5 (Nat.le_refl _))
      clear ho5 hg5
      have c1 := cell_under HB5.out HC1.out
      go_wp2_with fail
      go_roundg k2
      case measure => omega
      case rel =>
        refine ⟨_, s2, H2, Lib.hid ?_, HO5, HB5⟩
        rw [← HE.out, ← HA4.out]
        simp [sepB, sepT]
set_option maxRecDepth 100000 in
/-- (*At).Error. -/
theorem error_at {S : Prop} {w : World} {x : Value} {T : List UInt8} {k : Nat} (h : Tx S w (.iface 42 x) T k) (hT : T.length ≤ 1000000) (hP : S → PowTab w) :
    Calls Tryd.prog 18 #[x] w fun e w' => e = .returned (.string ⟨T.toArray⟩) ∧ Below w.heap.size w w' := by
  have HX := Lib.hid (text_of h hT hP)
  clear h hT hP
  go_enter Tryd.func18, Tryd.ntmps18
  go_wp2_with fail
  refine HX.out.mono ?_
  rintro e w' ⟨rfl, hb⟩
  go_wp2_with fail
  go_ret
  exact ⟨rfl, hb⟩
set_option maxRecDepth 100000 in
/-- (*within).Error. -/
theorem error_in {S : Prop} {w : World} {x : Value} {T : List UInt8} {k : Nat} (h : Tx S w (.iface 57 x) T k) (hT : T.length ≤ 1000000) (hP : S → PowTab w) :
    Calls Tryd.prog 80 #[x] w fun e w' => e = .returned (.string ⟨T.toArray⟩) ∧ Below w.heap.size w w' := by
  have HX := Lib.hid (text_of h hT hP)
  clear h hT hP
  go_enter Tryd.func80, Tryd.ntmps80
  go_wp2_with fail
  refine HX.out.mono ?_
  rintro e w' ⟨rfl, hb⟩
  go_wp2_with fail
  go_ret
  exact ⟨rfl, hb⟩
end Go.Proofs.YtioigoipggnkpaaDoor

namespace Go.Proofs.YtioigoipggnkpaaDoor
open Go.RowKit

theorem kf_0 (w : World) : Calls Tryd.prog 20 #[] w fun e w' => e = .returned (.iface 49 (.int .i64 1)) ∧ w' = w := by
  go_enter Tryd.func20, Tryd.ntmps20
  go_wp2_with fail
  go_ret
  exact ⟨rfl, rfl⟩
theorem kf_1 (w : World) : Calls Tryd.prog 21 #[] w fun e w' => e = .returned (.iface 49 (.int .i64 2)) ∧ w' = w := by
  go_enter Tryd.func21, Tryd.ntmps21
  go_wp2_with fail
  go_ret
  exact ⟨rfl, rfl⟩
theorem kf_2 (w : World) : Calls Tryd.prog 19 #[] w fun e w' => e = .returned (.iface 49 (.int .i64 3)) ∧ w' = w := by
  go_enter Tryd.func19, Tryd.ntmps19
  go_wp2_with fail
  go_ret
  exact ⟨rfl, rfl⟩
theorem kf_3 (w : World) : Calls Tryd.prog 22 #[] w fun e w' => e = .returned (.iface 49 (.int .i64 4)) ∧ w' = w := by
  go_enter Tryd.func22, Tryd.ntmps22
  go_wp2_with fail
  go_ret
  exact ⟨rfl, rfl⟩
theorem kf_4 (w : World) : Calls Tryd.prog 23 #[] w fun e w' => e = .returned (.iface 49 (.int .i64 5)) ∧ w' = w := by
  go_enter Tryd.func23, Tryd.ntmps23
  go_wp2_with fail
  go_ret
  exact ⟨rfl, rfl⟩
theorem kf_5 (w : World) : Calls Tryd.prog 24 #[] w fun e w' => e = .returned (.iface 49 (.int .i64 6)) ∧ w' = w := by
  go_enter Tryd.func24, Tryd.ntmps24
  go_wp2_with fail
  go_ret
  exact ⟨rfl, rfl⟩
theorem kf_6 (w : World) : Calls Tryd.prog 25 #[] w fun e w' => e = .returned (.iface 49 (.int .i64 7)) ∧ w' = w := by
  go_enter Tryd.func25, Tryd.ntmps25
  go_wp2_with fail
  go_ret
  exact ⟨rfl, rfl⟩
theorem Ch.nodeNew {w : World} {v : Value} {o : Option Int} {f : Option (Nat × Int)} {k : Nat} (h : Ch w v o f k) (n : Int) : Ch (w.alloc (.cells #[.int .i64 n, v] 46)) (.iface 42 (.pointer (Option.some ⟨w.heap.size, 0, none⟩))) o (Option.some (w.heap.size, n)) (k + 1) :=
  .node (cell_of_row _ _ 0 _ _ _ (heap_alloc_new w _)) (cell_of_row _ _ 1 _ _ _ (heap_alloc_new w _)) (h.under (below_alloc w _))
theorem Ch.saidNew {w : World} {v : Value} {o : Option Int} {f : Option (Nat × Int)} {k : Nat} (h : Ch w v o f k) (s : ByteArray) : Ch (w.alloc (.cells #[.string s, v] 59)) (.iface 57 (.pointer (Option.some ⟨w.heap.size, 0, none⟩))) o f (k + 1) :=
  .said (cell_of_row _ _ 0 _ _ _ (heap_alloc_new w _)) (cell_of_row _ _ 1 _ _ _ (heap_alloc_new w _)) (h.under (below_alloc w _))
theorem Tx.nodeNew {S : Prop} {w : World} {v : Value} {s : List UInt8} {k : Nat} (h : Tx S w v s k) {n : Int} (h0 : -9223372036854775808 ≤ n) (h1 : n ≤ 9223372036854775807) (hsm : S ∨ (0 ≤ n ∧ n < 100)) : Tx S (w.alloc (.cells #[.int .i64 n, v] 46)) (.iface 42 (.pointer (some ⟨w.heap.size, 0, none⟩))) (nodeT ++ Lib.itoa n ++ sepT ++ s) (k + 1) :=
  .node (cell_of_row _ _ 0 _ _ _ (heap_alloc_new w _)) (cell_of_row _ _ 1 _ _ _ (heap_alloc_new w _)) h0 h1 hsm (h.under (below_alloc w _))
theorem Tx.saidNew {S : Prop} {w : World} {v : Value} {s : List UInt8} {k : Nat} (h : Tx S w v s k) (r : ByteArray) : Tx S (w.alloc (.cells #[.string r, v] 59)) (.iface 57 (.pointer (some ⟨w.heap.size, 0, none⟩))) (r.data.toList ++ sepT ++ s) (k + 1) :=
  .said (cell_of_row _ _ 0 _ _ _ (heap_alloc_new w _)) (cell_of_row _ _ 1 _ _ _ (heap_alloc_new w _)) (h.under (below_alloc w _))
def signB : ByteArray := ⟨#[115, 105, 103, 110]⟩
def aliveT : List UInt8 := signB.data.toList ++ sepT ++ (nodeT ++ Lib.itoa 3 ++ sepT ++ kindT 2)
theorem itoa3 : Lib.itoa 3 = [51] := by
  have h : Lib.itoa ((3 : Nat) : Int) = Lib.decDigits 3 := Lib.itoa_nonneg 3
  rw [Lib.decDigits, dif_pos (by decide)] at h
  exact h
theorem alive_text : (⟨aliveT.toArray⟩ : ByteArray) = ⟨#[115, 105, 103, 110, 58, 32, 110, 111, 100, 101, 32, 51, 58, 32, 114, 111, 111, 116, 32, 111, 102, 32, 97, 32, 110, 101, 103, 97, 116, 105, 118, 101, 32, 110, 117, 109, 98, 101, 114]⟩ := by
  unfold aliveT
  rw [itoa3]
  rfl
theorem alive_len : aliveT.length ≤ 1000000 := by
  unfold aliveT
  rw [itoa3]
  decide
set_option maxRecDepth 100000 in
set_option maxHeartbeats 1000000 in
theorem falive {w : World} (h : ErrT w) : Calls Tryd.prog 6 #[] w fun e w' => e = .returned (.bool true) ∧ Below w.heap.size w w' := by
  have HF := Lib.hid h
  clear h
  go_enter Tryd.func6, Tryd.ntmps6
  go_wp2_with fail
  refine (kf_2 _).mono ?_
  rintro e w' ⟨rfl, rfl⟩
  go_wp2_with fail
  refine (node_new _ _ _ _).mono ?_
  rintro e w1 ⟨rfl, hw1⟩
  have HC1 := Lib.hid ((Ch.kind (w := w') 3).nodeNew 3)
  have HT1 := Lib.hid ((Tx.kind (S := False) (w := w') (i := 2) (by decide)).nodeNew (n := 3) (by decide) (by decide) (Or.inr ⟨by decide, by decide⟩))
  have HB1 := Lib.hid (below_alloc w' (.cells #[.int .i64 3, .iface 49 (.int .i64 3)] 46))
  rw [show (kv 2 : Value) = .iface 49 (.int .i64 3) from rfl] at HT1
  rw [← hw1] at HC1 HT1 HB1
  obtain ⟨p, hp⟩ : ∃ p, w'.heap.size = p := ⟨_, rfl⟩
  rw [hp] at HC1 HT1 ⊢
  clear hw1
  go_wp2_with fail
  refine (in_new _ _ _ _).mono ?_
  rintro e w2 ⟨rfl, hw2⟩
  have HC2 := Lib.hid (HC1.out.saidNew signB)
  have HT2 := Lib.hid (HT1.out.saidNew signB)
  have HB2 := Lib.hid (below_alloc w1 (.cells #[.string signB, .iface 42 (.pointer (some ⟨p, 0, none⟩))] 59))
  rw [show (signB : ByteArray) = ⟨#[115, 105, 103, 110]⟩ from rfl, ← hw2] at HC2 HT2 HB2
  obtain ⟨q, hq⟩ : ∃ q, w1.heap.size = q := ⟨_, rfl⟩
  have HB := Lib.hid (HB1.out.trans (HB2.out.mono HB1.out.size))
  rw [hq] at HC2 HT2 ⊢
  clear hw2 HB1 HB2 hp hq
  go_wp2_with fail
  refine (kf_2 _).mono ?_
  rintro e w3 ⟨rfl, rfl⟩
  go_wp2_with fail
  refine (where_of HC2.out (cell_under HB.out HF.out)).mono ?_
  rintro e w4 ⟨rfl, hb4⟩
  rw [show whereOf (some (p, 3)) = .tuple #[.int .i64 3, .bool true] from rfl]
  have HBW := Lib.hid (HB.out.trans (hb4.mono HB.out.size))
  have HC4 := Lib.hid (HC2.out.under hb4)
  have HT4 := Lib.hid (HT2.out.under hb4)
  clear hb4
  go_wp2_with fail
  refine (code_of HC4.out (by decide) 3 (Or.inl ⟨rfl, by decide, by decide⟩)).mono ?_
  rintro e w5 ⟨rfl, hb5⟩
  have HB5 := Lib.hid (HBW.out.trans (hb5.mono HBW.out.size))
  have HE := Lib.hid (error_in (HT4.out.under hb5) alive_len (fun hs => hs.elim))
  have mW := methodErrorW
  clear hb5
  go_wp2_with fail
  refine HE.out.mono ?_
  rintro e w6 ⟨rfl, hb6⟩
  have HB6 := Lib.hid (HB5.out.trans (hb6.mono HB5.out.size))
  clear hb6
  refine Hid.out ?_
  refine Lib.hid ?_
  rw [show (⟨#[115, 105, 103, 110]⟩ : ByteArray).data.toList ++ sepT ++ (nodeT ++ Lib.itoa 3 ++ sepT ++ kindT 2) = aliveT from rfl, alive_text]
  go_wp2_with fail
  go_ret
  exact ⟨rfl, HB6.out⟩
theorem unwrap_nil (w : World) : Calls Tryd.prog 17 #[.pointer none] w fun e w' => e = .returned .nilIface ∧ w' = w := by
  go_enter Tryd.func17, Tryd.ntmps17
  go_wp2_with fail
  go_ret
  exact ⟨rfl, rfl⟩
theorem bare_text (n : Int) : (⟨(nodeT ++ Lib.itoa n ++ sepT ++ noneT).toArray⟩ : ByteArray) = (⟨#[110, 111, 100, 101, 32]⟩ : ByteArray) ++ tw n ++ (⟨#[58, 32, 110, 111, 110, 101]⟩ : ByteArray) := by
  rw [← itoa_tw]
  apply ByteArray.ext
  apply Array.ext'
  simp [ByteArray.data_append, nodeT, sepT, noneT]
set_option maxRecDepth 100000 in
set_option maxHeartbeats 1000000 in
theorem none_ok {w : World} (h : ErrT w) (hP : PowTab w) (n : Int) (h0 : -9223372036854775808 ≤ n) (h1 : n ≤ 9223372036854775807) : Calls Tryd.prog 5 #[.int .i64 n] w fun e w' => RetV w (.bool true) e w' := by
  have HP := Lib.hid hP
  have HA := Lib.hid (falive h)
  have hz := tw_size n h0 h1
  clear h hP
  go_enter Tryd.func5, Tryd.ntmps5
  go_wp2_with fail
  refine HA.out.mono ?_
  rintro e w1 ⟨rfl, hb1⟩
  have hb2 := below_alloc w1 (.cells #[.int .i64 n, .nilIface] 46)
  have hT := (Tx.nil (S := True) (w := w1)).nodeNew h0 h1 (Or.inl trivial)
  obtain ⟨w2, hw2⟩ : ∃ w2, w2 = w1.alloc (.cells #[.int .i64 n, .nilIface] 46) := ⟨_, rfl⟩
  have HU := Lib.hid (unwrap_at w1.heap.size .nilIface _ (cell_of_row _ _ 1 _ _ _ (heap_alloc_new w1 (.cells #[.int .i64 n, .nilIface] 46))))
  rw [← hw2] at hb2 hT HU
  have HB := Lib.hid (hb1.trans (hb2.mono hb1.size))
  have HT := Lib.hid hT
  have HW := Lib.hid hw2
  clear hT hb1 hb2 hw2
  go_wp2_with fail
  rw [← HW.out]
  refine (error_at (.gone (S := True)) (by decide) (fun _ => HP.out.under HB.out)).mono ?_
  rintro e w3 ⟨rfl, hb3⟩
  have HB3 := Lib.hid (HB.out.trans (hb3.mono HB.out.size))
  have HT3 := Lib.hid (HT.out.under hb3)
  have HU3 := Lib.hid (unwrap_at w1.heap.size .nilIface w3 (cell_under hb3 (by rw [HW.out]; exact cell_of_row _ _ 1 _ _ _ (heap_alloc_new w1 (.cells #[.int .i64 n, .nilIface] 46)))))
  have HP3 := Lib.hid (HP.out.under HB3.out)
  have HE3 := Lib.hid (error_at HT3.out (by have := Lib.itoa_length_le n h0 h1; simp [nodeT, sepT, noneT]; omega) (fun _ => HP3.out))
  rw [bare_text] at HE3
  rw [show (⟨noneT.toArray⟩ : ByteArray) = ⟨#[110, 111, 110, 101]⟩ from rfl]
  clear hb3
  go_wp2_with fail
  refine (unwrap_nil _).mono ?_
  rintro e w' ⟨rfl, rfl⟩
  go_wp2_with fail
  refine HU3.out.mono ?_
  rintro e w' ⟨rfl, rfl⟩
  go_wp2_with fail
  refine HE3.out.mono ?_
  rintro e w4 ⟨rfl, hb4⟩
  have HB4 := Lib.hid (HB3.out.trans (hb4.mono HB3.out.size))
  clear hb4
  go_wp2_with fail
  refine (rdigits_num n w4 h0 h1).mono ?_
  rintro e w5 ⟨rfl, hb5⟩
  have HB5 := Lib.hid (HB4.out.trans (hb5.mono HB4.out.size))
  clear hb5
  go_wp2_with fail
  go_ret
  exact ⟨rfl, HB5.out⟩
end Go.Proofs.YtioigoipggnkpaaDoor
