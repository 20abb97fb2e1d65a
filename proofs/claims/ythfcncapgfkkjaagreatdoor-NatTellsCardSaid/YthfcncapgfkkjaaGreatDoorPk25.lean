/-
  Book9: compassbook: one more list is kept.
  BookA: compassbook: are the lists what they were, and does none share memory with another one?
  TellsN: What the statement NatTells calls, whichever way it ends; lists that lie apart.
  TellsL: The walk of the statement NatTells.
-/
import Derived.Test.YthfcncapgfkkjaaGreatDoorPk24
import Derived.Laws.AppendOwn
import Derived.Deep.RegionLaw
import Derived.Test.YthfcncapgfkkjaaGreatDoorPk18

namespace Go.Proofs.YthfcncapgfkkjaaGreatDoor
open Go.RowKit

/-- append(out, values ..), out of the call's own, as one step of a region that draws. -/
theorem step_append_lists {P : Program} (w : World) {ops : Array Oper} {o : Oper} {a : Act} {K : Act → World → Prop} {Q : Exit → Act → World → Prop} {E : Prop} (hgd : o.guard = none) (s x : Operand) (t : TypeId)
    (ho : o.op = .call { callee := .builtin .append, args := #[s, x], argTypes := #[t, t] }) (ht : P.underlying t = some (.slice 22)) (hi : (P.info? 22).map (fun i => (i.zero, i.size, i.bytes)) = some (some (.slice none 0 0), 1, 24))
    (base : Nat) (v : Value) (vs : List Value) (hs : a.eval s = v) (hown : OwU base w v vs)
    (ad : Addr) (m c : Nat) (us : List Value) (hx : a.eval x = .slice (some ad) m c) (hm : us.length = m) (hnews : ∀ j u, us[j]? = some u → w.cell? (ad.add j) = some u) (h1 : ∀ u ∈ us, u.oneCell' = true)
    (hM : vs.length + m ≤ 4294967296) (hbase : base ≤ w.heap.size)
    (hK : ∀ v' w', OwU base w' v' (vs ++ us) → w.grownBy w' v.ownBlock → (v'.ownBlock = v.ownBlock ∨ v'.ownBlock = some w.heap.size) → K (a.put o.dst v') w') : if Region.wanted o (yielded ops a.tmps) = true then Oper.wp P o a w K Q else E := by
  have hw : Region.wanted o (yielded ops a.tmps) = true := by simp [Region.wanted, hgd]
  rw [if_pos hw]
  obtain ⟨i, h2, h3, h4, h5⟩ := info_parts hi
  obtain ⟨v', w', hr, g2, g3, g4, g5⟩ := run_append_own_at (P := P) w base t o.type 22 i (.slice none 0 0) 1 24 ht h2 h3 h4 h5 rfl (by decide) v vs.length vs hown ad m c us (by rw [hm, Nat.mul_one]) hnews h1 (by unfold maxLen; omega) (by omega) hbase
  unfold Oper.wp execOp
  simp only [ho, resolve, invoke, builtin, Sem.run_bind, Sem.run_pure, Result.andThen_ok, List.map_toArray, List.map_cons, List.map_nil, hs, hx, hr]
  refine hK v' w' ?_ g3 g5
  unfold OwU
  rw [List.length_append, hm]
  exact g2

/-- No block of words has turned. -/
structure Fr (w w' : World) : Prop where
  size : w.heap.size ≤ w'.heap.size
  block : ∀ (k : Nat) (cur : Array Value), w.heap[k]? = some (Obj.cells cur 53 (0, 0)) → w'.heap[k]? = w.heap[k]?
theorem Fr.refl (w : World) : Fr w w := ⟨Nat.le_refl _, fun _ _ _ => rfl⟩
theorem Fr.trans {u v w : World} (h : Fr u v) (k : Fr v w) : Fr u w := ⟨Nat.le_trans h.size k.size, fun b cur hc => (k.block b cur ((h.block b cur hc).trans hc)).trans (h.block b cur hc)⟩
theorem Fr.of_below {w w' : World} (h : Below w.heap.size w w') : Fr w w' := ⟨h.size, fun k _ hc => h.block k (Array.getElem?_eq_some_iff.1 hc).1⟩
theorem Fr.grown {w w' : World} {row : Option Nat} (hg : w.grownBy w' row) (h : ∀ k, row = some k → ∃ (cur : Array Value) (t : TypeId), w.heap[k]? = some (Obj.cells cur t (0, 0)) ∧ t ≠ 53) : Fr w w' :=
  ⟨hg.size, fun k cur hc => hg.block k (Array.getElem?_eq_some_iff.1 hc).1 (fun e => by
    obtain ⟨cur', t, h1, h2⟩ := h k e.symm
    rw [hc] at h1
    simp only [Option.some.injEq, Obj.cells.injEq] at h1
    exact h2 h1.2.1.symm)⟩
theorem Fr.set {w : World} {g : Nat} {r s : Value} (h : BookAt w g r s) (k : Nat) (v : Value) : Fr w (w.setCell ⟨g, k, none⟩ v) :=
  ⟨by simp [World.setCell], fun b cur hc => heap_setCell_other w ⟨g, k, none⟩ b v (fun e => by
    subst e
    unfold BookAt at h
    rw [hc] at h
    simp only [Option.some.injEq, Obj.cells.injEq] at h
    exact absurd h.2.1 (by decide))⟩
theorem Ow.fr {base : Nat} {w w' : World} {v : Value} {l : List Int} (h : Ow base w v l) (hf : Fr w w') : Ow base w' v l := by
  refine ⟨h.1, ?_⟩
  rcases h.2 with h2 | ⟨g, cap, cur, rfl, hb, hh, r⟩
  · exact Or.inl h2
  · exact Or.inr ⟨g, cap, cur, rfl, hb, (hf.block g cur hh).trans hh, r⟩
theorem NewN.fr {base : Nat} {w w' : World} {v : Value} {N : Int} {m : Nat} (h : NewN base w v N m) (hf : Fr w w') : NewN base w' v N m := by
  obtain ⟨l, h1, h2⟩ := h
  exact ⟨l, h1.fr hf, h2⟩
theorem KLists.fr {w w' : World} {vs : List Value} {ls : List (List Int)} (h : KLists w vs ls) (hf : Fr w w') : KLists w' vs ls := by
  induction h with
  | nil => exact .nil
  | cons ho _ ih =>
    obtain ⟨base, ho⟩ := ho
    exact .cons ⟨base, ho.fr hf⟩ ih
theorem OwU.slice {base : Nat} {w : World} {v : Value} {vs : List Value} (h : OwU base w v vs) : ∃ a n c, v = .slice a n c := by
  obtain ⟨a, c, rfl, _⟩ := h.form
  exact ⟨a, _, c, rfl⟩
theorem OwU.typed {base : Nat} {w : World} {v : Value} {vs : List Value} (h : OwU base w v vs) : ∀ k, v.ownBlock = some k → ∃ (cur : Array Value) (t : TypeId), w.heap[k]? = some (Obj.cells cur t (0, 0)) ∧ t ≠ 53 := by
  intro k hk
  rcases h.2 with ⟨rfl, _⟩ | ⟨g, cap, cur, rfl, _, hh, _⟩
  · simp [Value.ownBlock] at hk
  · simp only [Value.ownBlock, Option.some.injEq] at hk
    subst hk
    exact ⟨cur, _, hh, by decide⟩
theorem book_set2 {w : World} {g : Nat} {r s : Value} (h : BookAt w g r s) (v : Value) : BookAt (w.setCell ⟨g, 2, none⟩ v) g v s := heap_setCell_same w g 2 _ _ v h
theorem book_set3 {w : World} {g : Nat} {r s : Value} (h : BookAt w g r s) (v : Value) : BookAt (w.setCell ⟨g, 3, none⟩ v) g r v := heap_setCell_same w g 3 _ _ v h
theorem OwU.set {base : Nat} {w : World} {v : Value} {vs : List Value} {g k : Nat} {u : Value} (h : OwU base w v vs) (hne : v.ownBlock ≠ some g) : OwU base (w.setCell ⟨g, k, none⟩ u) v vs :=
  h.only (Only.store k u (Nat.zero_le _) (Nat.lt_succ_self _)) hne
theorem below_set {B : Nat} {w0 w : World} {g k : Nat} {u : Value} (h : Below B w0 w) (hg : B ≤ g) (hB : B ≤ w.heap.size) : Below B w0 (w.setCell ⟨g, k, none⟩ u) :=
  h.trans ((Only.store (b := g) (lo := 0) (hi := k + 1) k u (Nat.zero_le _) (Nat.lt_succ_self _)).below hg hB)
theorem alloff_snoc {vs : List Value} {v : Value} (h : AllOff vs) (hv : ∀ u ∈ vs, u.ownBlock = none ∨ u.ownBlock ≠ v.ownBlock) : AllOff (vs ++ [v]) := by
  induction vs with
  | nil => exact ⟨fun u hu => by simp at hu, trivial⟩
  | cons x vs ih =>
    refine ⟨fun u hu => ?_, ih h.2 fun u hu => hv u (List.mem_cons_of_mem _ hu)⟩
    rcases List.mem_append.1 hu with hu | hu
    · exact h.1 u hu
    · obtain rfl := List.mem_singleton.1 hu
      exact hv x (List.mem_cons_self ..)
/-- A book that keeps the lists vs (and their copies us), which read as ls. -/
structure BK (B : Nat) (w : World) (g : Nat) (r s : Value) (vs us : List Value) (ls : List (List Int)) : Prop where
  book : BookAt w g r s
  row : OwU B w r vs
  was : OwU B w s us
  apart : r.ownBlock = none ∨ r.ownBlock ≠ s.ownBlock
  kept : KLists w vs ls
  copies : KLists w us ls
  off : AllOff vs
  blk : ∀ v ∈ vs, ∀ b, v.ownBlock = some b → B ≤ b
  hg : B ≤ g
theorem BK.under {B : Nat} {w w' : World} {g : Nat} {r s : Value} {vs us : List Value} {ls : List (List Int)} (h : BK B w g r s vs us ls) (hb : Below w.heap.size w w') : BK B w' g r s vs us ls :=
  ⟨slot_kept h.book hb, h.row.below hb, h.was.below hb, h.apart, h.kept.under hb, h.copies.under hb, h.off, h.blk, h.hg⟩
theorem BK.lt {B : Nat} {w : World} {g : Nat} {r s : Value} {vs us : List Value} {ls : List (List Int)} (h : BK B w g r s vs us ls) : g < w.heap.size := (Array.getElem?_eq_some_iff.1 h.book).1
/-- The rows have grown by one list. -/
theorem BK.first {B : Nat} {w : World} {g : Nat} {r s : Value} {vs us : List Value} {ls : List (List Int)} (h : BK B w g r s vs us ls) {w1 : World} {r' v : Value} (ho : OwU B w1 r' (vs ++ [v])) (hg : w.grownBy w1 r.ownBlock) (hat : r'.ownBlock = r.ownBlock ∨ r'.ownBlock = some w.heap.size) :
    BookAt w1 g r s ∧ BookAt (w1.setCell ⟨g, 2, none⟩ r') g r' s ∧ OwU B (w1.setCell ⟨g, 2, none⟩ r') r' (vs ++ [v]) ∧ OwU B (w1.setCell ⟨g, 2, none⟩ r') s us ∧ (r'.ownBlock = none ∨ r'.ownBlock ≠ s.ownBlock) ∧ Fr w (w1.setCell ⟨g, 2, none⟩ r') ∧ Below B w (w1.setCell ⟨g, 2, none⟩ r') := by
  have hlt := h.lt
  have hgB := h.hg
  have hs2 : s.ownBlock ≠ some g := owu_bookb h.was h.book
  have hb1 : BookAt w1 g r s := book_grown h.book hg (owu_bookb h.row h.book)
  have hwas1 : OwU B w1 s us := h.was.grown hg fun b hb e => by
    rcases h.apart with h1 | h1
    · rw [h1] at e; cases e
    · exact h1 (e.trans hb.symm)
  refine ⟨hb1, book_set2 hb1 _, ho.set (owu_bookb ho hb1), hwas1.set hs2, ?_, (Fr.grown hg h.row.typed).trans (Fr.set hb1 _ _), ?_⟩
  · rcases hat with h1 | h1
    · rw [h1]; exact h.apart
    · right
      rw [h1]
      intro e
      have := (h.was.lt _ e.symm).2
      omega
  · exact below_set (below_grown (Below.refl _ _) hg (by omega) fun b hb => (h.row.lt b hb).1) hgB (by have := hg.size; omega)
/-- The copies' row has grown by one list. -/
theorem BK.second {B : Nat} {w : World} {g : Nat} {r s : Value} {us : List Value} {vs : List Value} (hbk : BookAt w g r s) (hr : OwU B w r vs) (hs : OwU B w s us) (hap : r.ownBlock = none ∨ r.ownBlock ≠ s.ownBlock) (hgB : B ≤ g) {w1 : World} {s' u : Value} (ho : OwU B w1 s' (us ++ [u])) (hg : w.grownBy w1 s.ownBlock) (hat : s'.ownBlock = s.ownBlock ∨ s'.ownBlock = some w.heap.size) :
    BookAt w1 g r s ∧ BookAt (w1.setCell ⟨g, 3, none⟩ s') g r s' ∧ OwU B (w1.setCell ⟨g, 3, none⟩ s') r vs ∧ OwU B (w1.setCell ⟨g, 3, none⟩ s') s' (us ++ [u]) ∧ (r.ownBlock = none ∨ r.ownBlock ≠ s'.ownBlock) ∧ Fr w (w1.setCell ⟨g, 3, none⟩ s') ∧ Below B w (w1.setCell ⟨g, 3, none⟩ s') := by
  have hlt : g < w.heap.size := (Array.getElem?_eq_some_iff.1 hbk).1
  have hr2 : r.ownBlock ≠ some g := owu_bookb hr hbk
  have hb1 : BookAt w1 g r s := book_grown hbk hg (owu_bookb hs hbk)
  have hr1 : OwU B w1 r vs := hr.grown hg fun b hb e => by
    rcases hap with h1 | h1
    · rw [h1] at hb; cases hb
    · exact h1 (hb.trans e.symm)
  refine ⟨hb1, book_set3 hb1 _, hr1.set hr2, ho.set (owu_bookb ho hb1), ?_, (Fr.grown hg hs.typed).trans (Fr.set hb1 _ _), ?_⟩
  · rcases hat with h1 | h1
    · rw [h1]; exact hap
    · right
      rw [h1]
      intro e
      have := (hr.lt _ e).2
      omega
  · exact below_set (below_grown (Below.refl _ _) hg (by omega) fun b hb => (hs.lt b hb).1) hgB (by have := hg.size; omega)
set_option maxRecDepth 100000 in
set_option maxHeartbeats 2000000 in
theorem keep_num {B base : Nat} {w : World} {g : Nat} {r s v : Value} {vs us : List Value} {ls : List (List Int)} {l : List Int} (h : BK B w g r s vs us ls) (hv : Ow base w v l) (hoff : ∀ u ∈ vs, u.ownBlock = none ∨ u.ownBlock ≠ v.ownBlock) (hb : B ≤ base) (hlen : vs.length ≤ 200) (hll : l.length ≤ 100000) :
    Calls Tryz.prog 13 #[.pointer (some ⟨g, 0, none⟩), v] w fun e w' => e = .returned (.tuple #[]) ∧ (∃ r' s' u, BK B w' g r' s' (vs ++ [v]) (us ++ [u]) (ls ++ [l])) ∧ Below B w w' ∧ Fr w w' := by
  have hlen2 : us.length = vs.length := by rw [h.kept.length, h.copies.length]
  have hlt := h.lt
  have hgB := h.hg
  obtain ⟨ra, rc, hre, hrc1, hrc2, -⟩ := h.row.form
  obtain ⟨sa, sc, hse, hsc1, hsc2, -⟩ := h.was.form
  obtain ⟨rn, hrn⟩ : ∃ rn, vs.length = rn := ⟨_, rfl⟩
  rw [hlen2] at hse hsc1
  rw [hrn] at hre hrc1 hlen hse hsc1
  subst hre hse
  obtain ⟨a, n, c, rfl⟩ := hv.slice
  have HRN := Lib.hid hrn
  have HL2 := Lib.hid hlen2
  have HB := Lib.hid h
  have HV := Lib.hid hv
  have HOFF := Lib.hid hoff
  have hBk := h.book
  have c2 : w.cell? ⟨g, 2, none⟩ = some (.slice ra rn rc) := cell_of_row w g 2 _ _ _ hBk
  have hbs : B ≤ w.heap.size := by omega
  have hal := Lib.hid (h.under (below_alloc w (.cells #[.slice a n c] 22)))
  have hrI : (rn : Int) < 250 := by omega
  clear hrn hlen2 h hv hoff hBk hsc1
  go_enter Tryz.func13, Tryz.ntmps13
  go_upto_region 2 with (at_builtin; refine wpList_append_lists _ rfl (.tmp 14) (.tmp 16) 30 rfl Tryz.underlying30 info_list B (.slice ra rn rc) vs rfl hal.out.row ⟨w.heap.size, 0, none⟩ 1 1 [.slice a n c] rfl rfl (newsv _ _ _) (by intro u hu; obtain rfl := List.mem_singleton.1 hu; rfl) (by rw [HRN.out]; omega) (by have := hal.out.lt; omega) ?_; intro r' w1 hO1 hg1 hat1; obtain ⟨qa, qn, qc, rfl⟩ := hO1.slice; have HF := Lib.hid (hal.out.first hO1 hg1 hat1); have hb1 := HF.out.1; have c2' : w1.cell? ⟨g, 2, none⟩ = some (.slice ra rn rc) := cell_of_row w1 g 2 _ _ _ hb1; have f2' := frozen_of_row w1 g 2 _ _ hb1; clear hb1)
  clear c2 c2' f2' hal
  obtain ⟨w2, hw2⟩ : ∃ w2, w2 = w1.setCell ⟨g, 2, none⟩ (.slice qa qn qc) := ⟨_, rfl⟩
  rw [← hw2]
  obtain ⟨-, hbk2, hr2, hs2, hap2, hf2, hbl2⟩ := HF.out
  rw [← hw2] at hbk2 hr2 hs2 hf2 hbl2
  clear HF hO1 hg1 hat1 hw2
  have hf02 := (Fr.of_below (below_alloc w _)).trans hf2
  have hb02 := ((below_alloc w _).mono hbs).trans hbl2
  have c3 : w2.cell? ⟨g, 3, none⟩ = some (.slice sa rn sc) := cell_of_row w2 g 3 _ _ _ hbk2
  have hz2 : B ≤ w2.heap.size := by have := hb02.size; omega
  obtain ⟨hnl, hrd⟩ : n = l.length ∧ Rd w2 a l := by
    obtain ⟨a', c', he, -, -, h3⟩ := (HV.out.fr hf02).form
    simp only [Value.slice.injEq] at he
    obtain ⟨rfl, rfl, rfl⟩ := he
    exact ⟨rfl, h3⟩
  have HNL := Lib.hid hnl
  have HRD := Lib.hid hrd
  have HBK2 := Lib.hid hbk2
  have HR2 := Lib.hid hr2
  have HS2 := Lib.hid hs2
  have HAP2 := Lib.hid hap2
  have HF2 := Lib.hid hf02
  have HBL2 := Lib.hid hb02
  clear hbk2 hr2 hs2 hap2 hf02 hb02 hf2 hbl2 hnl hrd
  go_region_law (first
    | (refine step_append_lists _ rfl (.tmp 24) (.tmp 27) 30 rfl Tryz.underlying30 info_list B (.slice sa rn sc) us (by simp [Act.eval]) (HS3.out.alloc _) ⟨w3.heap.size, 0, none⟩ 1 1 [.slice ua un uc] (by simp [Act.eval]) rfl (newsv _ _ _) (by intro u hu; obtain rfl := List.mem_singleton.1 hu; rfl) (by rw [HL2.out, HRN.out]; omega) (by simp; omega) ?_; intro s' w4 hO4 hg4 hat4; obtain ⟨za, zn, zc, rfl⟩ := hO4.slice; have HT := Lib.hid (BK.second (slot_kept HBK3.out (below_alloc w3 _)) (HR3.out.alloc _) (HS3.out.alloc _) HAP2.out hgB hO4 hg4 hat4); have hb4 := HT.out.1; have c3 : w4.cell? ⟨g, 3, none⟩ = some (.slice sa rn sc) := cell_of_row w4 g 3 _ _ _ hb4; have f3 := frozen_of_row w4 g 3 _ _ hb4; clear hb4)
    | (go_simp; go_at_call 27; refine (copy_any a n c l _ HNL.out (by exact HRD.out) (by rw [HNL.out]; unfold MaxW; omega)).mono ?_; rintro e w3 ⟨u, rfl, hOu, hb3⟩; obtain ⟨ua, un, uc, rfl⟩ := hOu.slice; have hb23 : Below w2.heap.size w2 w3 := ⟨hb3.os, hb3.tape, hb3.output, hb3.size, hb3.block⟩; have HBK3 := Lib.hid (slot_kept HBK2.out hb23); have HR3 := Lib.hid (HR2.out.below hb23); have HS3 := Lib.hid (HS2.out.below hb23); have HOU := Lib.hid hOu; have HB23 := Lib.hid hb23; have c3' : w3.cell? ⟨g, 3, none⟩ = some (.slice sa rn sc) := cell_of_row w3 g 3 _ _ _ HBK3.out; have c3'' : (w3.alloc (.cells #[.slice ua un uc] 22)).cell? ⟨g, 3, none⟩ = some (.slice sa rn sc) := cell_of_row _ g 3 _ _ _ (slot_kept HBK3.out (below_alloc w3 _)); have hz3 : B ≤ w3.heap.size := (by have := hb23.size; omega); clear hb3 hb23 hOu))
  all_goals
    go_end0
    obtain ⟨-, hbk, hr, hs, hap, hf, hbl⟩ := HT.out
    have hf34 := (Fr.of_below (below_alloc w3 (.cells #[.slice ua un uc] 22))).trans hf
    have hf04 := HF2.out.trans ((Fr.of_below HB23.out).trans hf34)
    have hbl4 := HBL2.out.trans ((HB23.out.mono hz2).trans (((below_alloc w3 (.cells #[.slice ua un uc] 22)).mono hz3).trans hbl))
    refine ⟨rfl, ⟨_, _, .slice ua un uc, hbk, hr, hs, hap, (HB.out.kept.fr hf04).append (.cons ⟨base, HV.out.fr hf04⟩ .nil), (HB.out.copies.fr hf04).append (.cons ⟨_, HOU.out.fr hf34⟩ .nil), alloff_snoc HB.out.off HOFF.out, ?_, hgB⟩, hbl4, hf04⟩
    intro u hu b hub
    rcases List.mem_append.1 hu with hu | hu
    · exact HB.out.blk u hu b hub
    · obtain rfl := List.mem_singleton.1 hu
      have := (ow_ltb HV.out b hub).1
      omega
end Go.Proofs.YthfcncapgfkkjaaGreatDoor

namespace Go.Proofs.YthfcncapgfkkjaaGreatDoor
open Go.RowKit

theorem Half.marks {ls ls' : List (List Int)} {k : Nat} (h : Half ls ls' k) (hk : k = ls.length) (hl : ls'.length = ls.length) {m : Nat} (hm : ∀ (i : Nat) (l : List Int), ls[i]? = some l → l.length ≤ m) : ∀ (i : Nat) (l : List Int), ls'[i]? = some l → l = Proofs.YthfcncapgfkkjaaGreatDoor.marks i 0 l.length ∧ l.length ≤ m := by
  intro i l hi
  have hil : i < ls.length := by rw [← hl]; exact (List.getElem?_eq_some_iff.1 hi).1
  obtain ⟨l0, h0⟩ : ∃ l0, ls[i]? = some l0 := ⟨_, List.getElem?_eq_getElem hil⟩
  have h1 := h i l0 h0
  rw [if_pos (by omega), hi] at h1
  obtain rfl := Option.some.inj h1
  rw [marks_length]
  exact ⟨rfl, hm i l0 h0⟩
theorem GO.marks {w : World} {g : Nat} {r s : Value} {b1 B : Nat} {vs : List Value} {ls : List (List Int)} {k : Nat} {wr : World} {out : Value} {us : List Value} {ls' : List (List Int)} (h : GO w g r s b1 B vs ls k wr out us ls') (hk : k = ls.length) {m : Nat} (hm : ∀ (i : Nat) (l : List Int), ls[i]? = some l → l.length ≤ m) : ∀ (i : Nat) (l : List Int), ls'[i]? = some l → l = Proofs.YthfcncapgfkkjaaGreatDoor.marks i 0 l.length ∧ l.length ≤ m + 72 := by
  intro i l hi
  have hlen : ls'.length = k := by rw [← h.put.length, h.len]
  have hil : i < ls.length := by rw [← hk, ← hlen]; exact (List.getElem?_eq_some_iff.1 hi).1
  obtain ⟨l0, h0⟩ : ∃ l0, ls[i]? = some l0 := ⟨_, List.getElem?_eq_getElem hil⟩
  have h1 := h.mks i l0 (by omega) h0
  rw [hi] at h1
  obtain rfl := Option.some.inj h1
  rw [marks_length]
  exact ⟨rfl, by have := hm i l0 h0; omega⟩
theorem book_cells {w : World} {g : Nat} {r s : Value} (h : BookAt w g r s) : w.cell? ⟨g, 0, none⟩ = some (.slice none 0 0) ∧ w.cell? ⟨g, 4, none⟩ = some (.slice none 0 0) ∧ w.cell? ⟨g, 6, none⟩ = some (.slice none 0 0) ∧ w.cell? ⟨g, 8, none⟩ = some (.slice none 0 0) ∧ w.cell? ⟨g, 2, none⟩ = some r :=
  ⟨cell_of_row w g 0 _ _ _ h, cell_of_row w g 4 _ _ _ h, cell_of_row w g 6 _ _ _ h, cell_of_row w g 8 _ _ _ h, cell_of_row w g 2 _ _ _ h⟩

set_option maxRecDepth 100000 in
set_option maxHeartbeats 2000000 in
theorem apart_num {B : Nat} {w : World} {g : Nat} {r s : Value} {vs us : List Value} {ls : List (List Int)} (h : BK B w g r s vs us ls) (hlen : vs.length ≤ 300) (hl : ∀ (i : Nat) (l : List Int), ls[i]? = some l → l.length ≤ 10000) :
    Calls Tryz.prog 22 #[.pointer (some ⟨g, 0, none⟩)] w fun e w' => e = .returned (.bool true) ∧ Below B w w' := by
  have hlen2 : us.length = vs.length := by rw [h.kept.length, h.copies.length]
  have hlen3 := h.kept.length
  have hBw : B ≤ w.heap.size := by have := h.lt; have := h.hg; omega
  obtain ⟨ra, rc, hre, -, -, -⟩ := h.row.form
  obtain ⟨sa, sc, hse, -, -, -⟩ := h.was.form
  obtain ⟨rn, hrn⟩ : ∃ rn, vs.length = rn := ⟨_, rfl⟩
  rw [hlen2] at hse
  rw [hrn] at hre hse hlen hlen3
  subst hre hse
  have HRN := Lib.hid hrn
  have HL3 := Lib.hid hlen3
  have HL := Lib.hid hl
  have HB := Lib.hid h
  obtain ⟨c0, -, -, -, -⟩ := book_cells h.book
  clear hrn hlen2 hlen3 h hl
  go_enter Tryz.func22, Tryz.ntmps22
  go_wp2_with fail
  refine (stillInts_none c0).mono ?_
  rintro e w' ⟨rfl, rfl⟩
  clear c0
  go_wp2_with fail
  refine (still_num HB.out.book HB.out.row HB.out.was HB.out.kept HB.out.copies HRN.out.symm (by omega)).mono ?_
  rintro e w1 ⟨rfl, hb1⟩
  have HB1 := Lib.hid (HB.out.under hb1)
  have hw1 : Below B w w1 := hb1.mono hBw
  obtain ⟨c0, c4, c6, c8, -⟩ := book_cells HB1.out.book
  clear hb1 HB
  go_wp2_with fail
  refine (stillNodes_none c4).mono ?_
  rintro e w' ⟨rfl, rfl⟩
  go_wp2_with fail
  refine (stillPairs_none c6).mono ?_
  rintro e w' ⟨rfl, rfl⟩
  go_wp2_with fail
  refine (stillSteps_none c8).mono ?_
  rintro e w' ⟨rfl, rfl⟩
  go_wp2_with fail
  refine (putSteps_none c8).mono ?_
  rintro e w' ⟨rfl, rfl⟩
  go_wp2_with fail
  refine (putInts_none c0).mono ?_
  rintro e w' ⟨rfl, rfl⟩
  clear c0 c4 c6 c8
  go_wp2_with fail
  refine (put_num HB1.out.book HB1.out.row HB1.out.kept HB1.out.off HRN.out.symm (by omega) (fun i l hi => by have := HL.out i l hi; omega) HB1.out.blk (by have := hw1.size; omega)).mono ?_
  rintro e w2 ⟨rfl, hbk2, hro2, ⟨ls2, hk2, hh2⟩, hb2⟩
  have hw2 := hw1.trans hb2
  have hlen2 : ls2.length = ls.length := by rw [← hk2.length, HRN.out, HL3.out]
  have HMK := Lib.hid (hh2.marks HL3.out hlen2 HL.out)
  have HS2 : Hid (GS w2 g (.slice ra rn rc) B vs ls2) := Lib.hid ⟨by have := hw2.size; omega, HB1.out.off, fun v hv b hb => ⟨HB1.out.blk v hv b hb, hk2.lt v hv b hb⟩, fun b hb => (hro2.lt b hb).2, fun i l hi => ⟨(HMK.out i l hi).1, by have := (HMK.out i l hi).2; omega⟩⟩
  have HRN2 : Hid (rn = ls2.length) := Lib.hid (by rw [hlen2]; exact HL3.out)
  have HK2 := Lib.hid hk2
  have HBK2 := Lib.hid hbk2
  have HRO2 := Lib.hid hro2
  obtain ⟨c0, c4, c6, c8, -⟩ := book_cells hbk2
  clear hb2 hh2 hlen2 hk2 hbk2 hro2 HB1 hw1 HL HL3
  go_wp2_with fail
  refine (putNodes_none c4).mono ?_
  rintro e w' ⟨rfl, rfl⟩
  go_wp2_with fail
  refine (putPairs_none c6).mono ?_
  rintro e w' ⟨rfl, rfl⟩
  go_wp2_with fail
  refine (growInts_none c0).mono ?_
  rintro e w' ⟨rfl, rfl⟩
  clear c0 c4 c6 c8
  go_wp2_with fail
  refine (grow_num HBK2.out HRO2.out HK2.out HS2.out HRN.out.symm hlen).mono ?_
  rintro e w3 ⟨out, us3, ls3, rfl, hG⟩
  have hw3 := hw2.trans hG.below
  obtain ⟨oa, oc, ho, -, -, -⟩ := hG.row.form
  rw [hG.len] at ho
  subst ho
  have HG := Lib.hid hG
  have HM3 := Lib.hid (hG.marks HRN2.out (fun i l hi => (HMK.out i l hi).2))
  obtain ⟨c0, c4, c6, c8, c2⟩ := book_cells hG.book
  have hb3w : B ≤ w3.heap.size := by have := hw3.size; omega
  clear hG hw2 HBK2 HRO2 HK2 HS2
  go_wp2_with fail
  refine (growNodes_none c4).mono ?_
  rintro e w' ⟨rfl, rfl⟩
  go_wp2_with fail
  refine (growPairs_none c6).mono ?_
  rintro e w' ⟨rfl, rfl⟩
  go_wp2_with fail
  refine (growSteps_none c8).mono ?_
  rintro e w' ⟨rfl, rfl⟩
  go_wp2_with fail
  refine (markedInts_none w3).mono ?_
  rintro e w' ⟨rfl, rfl⟩
  go_wp2_with fail
  refine (markedInts_none w3).mono ?_
  rintro e w' ⟨rfl, rfl⟩
  go_wp2_with fail
  refine (marked_num HG.out.row HG.out.put (by rw [HG.out.len]) hlen (fun i l hi => ⟨(HM3.out i l hi).1, by have := (HM3.out i l hi).2; omega⟩)).mono ?_
  rintro e w4 ⟨rfl, hb4⟩
  have hw4 := hw3.trans (hb4.mono hb3w)
  have c2' := cell_after hb4 c2
  have c4' := cell_after hb4 c4
  have c6' := cell_after hb4 c6
  have c8' := cell_after hb4 c8
  have hk4 := HG.out.kept.under hb4
  have hr4 := HG.out.rows.below hb4
  have hb4w : B ≤ w4.heap.size := by have := hw4.size; omega
  clear c0 c2 c4 c6 c8 hw3 hb4 HG HM3
  go_wp2_with fail
  refine (marked_num hr4 hk4 HRN.out.symm hlen (fun i l hi => ⟨(HMK.out i l hi).1, by have := (HMK.out i l hi).2; omega⟩)).mono ?_
  rintro e w5 ⟨rfl, hb5⟩
  have hw5 := hw4.trans (hb5.mono hb4w)
  have c4 := cell_after hb5 c4'
  have c6 := cell_after hb5 c6'
  have c8 := cell_after hb5 c8'
  clear c2' c4' c6' c8' hk4 hr4 hb5 hw4
  go_wp2_with fail
  refine (markedNodes_none w5).mono ?_
  rintro e w' ⟨rfl, rfl⟩
  go_wp2_with fail
  refine (markedNodes_none w5).mono ?_
  rintro e w' ⟨rfl, rfl⟩
  go_wp2_with fail
  refine (markedPairs_none w5).mono ?_
  rintro e w' ⟨rfl, rfl⟩
  go_wp2_with fail
  refine (markedPairs_none w5).mono ?_
  rintro e w' ⟨rfl, rfl⟩
  go_wp2_with fail
  refine (markedSteps_none w5).mono ?_
  rintro e w' ⟨rfl, rfl⟩
  go_wp2_with fail
  refine (markedSteps_none w5).mono ?_
  rintro e w' ⟨rfl, rfl⟩
  go_wp2_with fail
  go_ret
  exact ⟨rfl, hw5⟩
end Go.Proofs.YthfcncapgfkkjaaGreatDoor

namespace Go.Proofs.YthfcncapgfkkjaaGreatDoor
open Go.RowKit

theorem NewN.zero (base : Nat) (w : World) (m : Nat) : NewN base w (.slice none 0 0) 0 m := ⟨[], Ow.nil _ _, Can.nil _, rfl, Nat.zero_le _⟩
/-- nat.DivMod, by 0, too. -/
def RetDMB (w : World) (A B : Int) (m k : Nat) (e : Ending) (w' : World) : Prop :=
  ∃ a n c a' n' c' ok Q R, e = .returned (.tuple #[.slice a n c, .slice a' n' c', .bool ok]) ∧ NewN w.heap.size w' (.slice a n c) Q m ∧ NewN w.heap.size w' (.slice a' n' c') R k ∧ Dis (.slice a n c) (.slice a' n' c') ∧ Below w.heap.size w w' ∧ ((ok = true ∧ B ≠ 0 ∧ Q = A / B ∧ R = A % B) ∨ (ok = false ∧ B = 0 ∧ Q = 0 ∧ R = 0))
theorem dm_both {w : World} {u v : Value} {A B : Int} {m k : Nat} (h : Num w u A m) (g : Num w v B k) (hm : m ≤ 150) (hk : k ≤ 100000) :
    Calls Tryz.prog 11 #[u, v] w fun e w' => RetDMB w A B m k e w' := by
  by_cases h0 : B = 0
  · subst h0
    refine (dm_num0 h g).mono ?_
    rintro e w' ⟨rfl, rfl⟩
    exact ⟨none, 0, 0, none, 0, 0, false, 0, 0, rfl, NewN.zero _ _ _, NewN.zero _ _ _, by intro g h; simp [Value.ownBlock] at h, Below.refl _ _, Or.inr ⟨rfl, rfl, rfl, rfl⟩⟩
  · refine (dm_num h g hm hk h0).mono ?_
    rintro e w' ⟨a, n, c, a', n', c', rfl, hq, hr, hd, hb⟩
    exact ⟨a, n, c, a', n', c', true, _, _, rfl, hq, hr, hd, hb, Or.inl ⟨rfl, h0, rfl, rfl⟩⟩
/-- nat.Sub, of less than what is taken, too. -/
def RetSB (w : World) (A B : Int) (m : Nat) (e : Ending) (w' : World) : Prop :=
  ∃ a n c ok D, e = .returned (.tuple #[.slice a n c, .bool ok]) ∧ NewN w.heap.size w' (.slice a n c) D m ∧ Below w.heap.size w w' ∧ ((ok = true ∧ B ≤ A ∧ D = A - B) ∨ (ok = false ∧ A < B ∧ D = 0))
theorem sub_both {w : World} {u v : Value} {A B : Int} {m k : Nat} (h : Num w u A m) (g : Num w v B k) (hm : m ≤ 100000) :
    Calls Tryz.prog 12 #[u, v] w fun e w' => RetSB w A B m e w' := by
  by_cases hle : B ≤ A
  · refine (sub_num h g hm hle).mono ?_
    rintro e w' ⟨a, n, c, rfl, hd, hb⟩
    exact ⟨a, n, c, true, _, rfl, hd, hb, Or.inl ⟨rfl, hle, rfl⟩⟩
  · refine (sub_num_no h g (by omega)).mono ?_
    rintro e w' ⟨rfl, hb⟩
    exact ⟨none, 0, 0, false, 0, rfl, NewN.zero _ _ _, hb, Or.inr ⟨rfl, by omega, rfl⟩⟩
/-- The blocks of lists lie below a place. -/
def Under (z : Nat) (vs : List Value) : Prop := ∀ v ∈ vs, ∀ b, v.ownBlock = some b → b < z
theorem Under.mono {z z' : Nat} {vs : List Value} (h : Under z vs) (hz : z ≤ z') : Under z' vs := fun v hv b hb => by have := h v hv b hb; omega
theorem Under.snoc {base z z' : Nat} {w : World} {vs : List Value} {v : Value} {N : Int} {m : Nat} (h : Under z vs) (hv : NewN base w v N m) (hz : z ≤ z') (hs : w.heap.size ≤ z') : Under z' (vs ++ [v]) := by
  intro u hu b hb
  rcases List.mem_append.1 hu with hu | hu
  · have := h u hu b hb; omega
  · obtain rfl := List.mem_singleton.1 hu
    have := (hv.lt b hb).2
    omega
theorem Under.off {base z : Nat} {w : World} {vs : List Value} {v : Value} {N : Int} {m : Nat} (h : Under z vs) (hv : NewN base w v N m) (hz : z ≤ base) : ∀ u ∈ vs, u.ownBlock = none ∨ u.ownBlock ≠ v.ownBlock := by
  intro u hu
  cases hub : u.ownBlock with
  | none => exact Or.inl rfl
  | some b =>
    right
    intro e
    have h1 := h u hu b hub
    have h2 := (hv.lt b e.symm).1
    omega
/-- The lists kept are short. -/
def Short (ls : List (List Int)) : Prop := ∀ l ∈ ls, l.length ≤ 10000
theorem Short.get {ls : List (List Int)} (h : Short ls) : ∀ (i : Nat) (l : List Int), ls[i]? = some l → l.length ≤ 10000 := fun _ l hl => h l (List.mem_of_getElem? hl)
theorem Short.snoc {ls : List (List Int)} {l : List Int} (h : Short ls) (hl : l.length ≤ 10000) : Short (ls ++ [l]) := by
  intro x hx
  rcases List.mem_append.1 hx with hx | hx
  · exact h x hx
  · obtain rfl := List.mem_singleton.1 hx
    exact hl
/-- So many short lists are kept; the book lies behind place B, all that lies below it has stood since world w0. -/
structure BN (B : Nat) (w0 w : World) (g : Nat) (vs : List Value) (k : Nat) : Prop where
  ex : ∃ r s us ls, BK B w g r s vs us ls ∧ Short ls
  len : vs.length = k
  below : Below B w0 w
theorem BN.under {B : Nat} {w0 w w' : World} {g : Nat} {vs : List Value} {k : Nat} (h : BN B w0 w g vs k) (hb : Below w.heap.size w w') : BN B w0 w' g vs k := by
  obtain ⟨r, s, us, ls, h1, h2⟩ := h.ex
  exact ⟨⟨r, s, us, ls, h1.under hb, h2⟩, h.len, h.below.trans (hb.mono (by have := h1.lt; have := h1.hg; omega))⟩
theorem BN.size {B : Nat} {w0 w : World} {g : Nat} {vs : List Value} {k : Nat} (h : BN B w0 w g vs k) : B ≤ w.heap.size := by
  obtain ⟨r, s, us, ls, h1, h2⟩ := h.ex
  have := h1.lt
  have := h1.hg
  omega
theorem BN.under_size {B : Nat} {w0 w : World} {g : Nat} {vs : List Value} {k : Nat} (h : BN B w0 w g vs k) : Under w.heap.size vs := by
  obtain ⟨r, s, us, ls, h1, h2⟩ := h.ex
  exact fun v hv b hb => h1.kept.lt v hv b hb
theorem keep_bn {B : Nat} {w0 w : World} {g : Nat} {vs : List Value} {k base : Nat} {v : Value} {N : Int} {m : Nat} (h : BN B w0 w g vs k) (hv : NewN base w v N m) (hoff : ∀ u ∈ vs, u.ownBlock = none ∨ u.ownBlock ≠ v.ownBlock) (hb : B ≤ base) (hk : k ≤ 200) (hm : m ≤ 10000) :
    Calls Tryz.prog 13 #[.pointer (some ⟨g, 0, none⟩), v] w fun e w' => e = .returned (.tuple #[]) ∧ BN B w0 w' g (vs ++ [v]) (k + 1) ∧ Fr w w' := by
  obtain ⟨r, s, us, ls, h1, h2⟩ := h.ex
  obtain ⟨l, o1, o2, o3, o4⟩ := hv
  refine (keep_num h1 o1 hoff hb (by rw [h.len]; exact hk) (by omega)).mono ?_
  rintro e w' ⟨rfl, ⟨r', s', u, h3⟩, h4, h5⟩
  exact ⟨rfl, ⟨⟨r', s', us ++ [u], ls ++ [l], h3, h2.snoc (by omega)⟩, by rw [List.length_append, h.len]; rfl, h.below.trans h4⟩, h5⟩
theorem apart_bn {B : Nat} {w0 w : World} {g : Nat} {vs : List Value} {k : Nat} (h : BN B w0 w g vs k) (hk : k ≤ 300) :
    Calls Tryz.prog 22 #[.pointer (some ⟨g, 0, none⟩)] w fun e w' => e = .returned (.bool true) ∧ Below B w0 w' := by
  obtain ⟨r, s, us, ls, h1, h2⟩ := h.ex
  refine (apart_num h1 (by rw [h.len]; exact hk) h2.get).mono ?_
  rintro e w' ⟨rfl, hb⟩
  exact ⟨rfl, h.below.trans hb⟩
/-- The book, as it is made. -/
theorem BN.new (w : World) : BN w.heap.size w (w.alloc (.cells #[.slice none 0 0, .slice none 0 0, .slice none 0 0, .slice none 0 0, .slice none 0 0, .slice none 0 0, .slice none 0 0, .slice none 0 0, .slice none 0 0, .slice none 0 0] 35)) w.heap.size [] 0 :=
  ⟨⟨.slice none 0 0, .slice none 0 0, [], [], ⟨heap_alloc_new w _, OwU.nil _ _, OwU.nil _ _, Or.inl rfl, .nil, .nil, trivial, fun v hv => by simp at hv, Nat.le_refl _⟩, fun l hl => by simp at hl⟩, rfl, below_alloc w _⟩
end Go.Proofs.YthfcncapgfkkjaaGreatDoor

namespace Go.Proofs.YthfcncapgfkkjaaGreatDoor
open Go.RowKit

theorem cmpI_le0 {A B : Int} (h : B ≤ A) : 0 ≤ cmpI A B := by
  rcases Int.lt_or_eq_of_le h with h | h
  · rw [cmpI_gt h]; decide
  · rw [cmpI_eq h.symm]; decide
set_option maxRecDepth 100000 in
theorem tells_heavy (aA : Option Addr) (nA cA : Nat) (aB : Option Addr) (nB cB : Nat) (cut : Int) (w : World) (h1 : nA ≤ 9223372036854775807) (h2 : nB ≤ 9223372036854775807) (h : ¬ (nA ≤ 40 ∧ nB ≤ 40)) :
    Calls Tryz.prog 3 #[.slice aA nA cA, .slice aB nB cB, .int .i64 cut] w fun e w' => RetV w (.bool true) e w' := by
  have hl := light_two aA aB nA nB cA cB 22 w h1 h2
  rw [show (decide (nA ≤ 40) && decide (nB ≤ 40)) = false by simpa using h] at hl
  have HL := Lib.hid hl
  clear hl h
  go_enter Tryz.func3, Tryz.ntmps3
  go_wp2_with fail
  refine HL.out.mono ?_
  rintro e w' ⟨rfl, rfl⟩
  go_wp2_with fail
  refine (alive_yes _).mono ?_
  rintro e w1 ⟨rfl, hb⟩
  go_wp2_with fail
  go_ret
  exact ⟨rfl, (below_alloc w _).trans (hb.mono (by simp))⟩

set_option maxRecDepth 100000 in
set_option maxHeartbeats 6000000 in
theorem tells_ok (aA : Option Addr) (nA cA : Nat) (lA : List Int) (aB : Option Addr) (nB cB : Nat) (lB : List Int) (cut : Int) (hcut : cut ≤ 9223372036854775807) (w : World)
    (hnA : nA = lA.length) (hA1 : nA ≤ cA) (hA2 : cA ≤ 9223372036854775807) (rA : Rd w aA lA) (limA : Lim B64 lA) (h40A : nA ≤ 40)
    (hnB : nB = lB.length) (hB1 : nB ≤ cB) (hB2 : cB ≤ 9223372036854775807) (rB : Rd w aB lB) (limB : Lim B64 lB) (h40B : nB ≤ 40) :
    Calls Tryz.prog 3 #[.slice aA nA cA, .slice aB nB cB, .int .i64 cut] w fun e w' => RetV w (.bool true) e w' := by
  have hlt := light_two aA aB nA nB cA cB 22 w (by omega) (by omega)
  rw [show (decide (nA ≤ 40) && decide (nB ≤ 40)) = true by simp; omega] at hlt
  have HL := Lib.hid hlt
  obtain ⟨A, hAe⟩ : ∃ A, A = vb B64 lA := ⟨_, rfl⟩
  obtain ⟨B, hBe⟩ : ∃ B, B = vb B64 lB := ⟨_, rfl⟩
  have hA : Num w (.slice aA nA cA) A 40 := ⟨lA, ⟨aA, cA, by rw [hnA], by rw [← hnA]; exact hA1, hA2, rA, limA⟩, hAe.symm, by rw [← hnA]; exact h40A⟩
  have hB : Num w (.slice aB nB cB) B 40 := ⟨lB, ⟨aB, cB, by rw [hnB], by rw [← hnB]; exact hB1, hB2, rB, limB⟩, hBe.symm, by rw [← hnB]; exact h40B⟩
  have hb0 := below_alloc w (.cells #[Value.slice aA nA cA, Value.slice aB nB cB] 22)
  have HNA := Lib.hid hnA
  have HNB := Lib.hid hnB
  have HAE := Lib.hid hAe
  have HBE := Lib.hid hBe
  clear hlt hnA hnB hAe hBe
  go_enter Tryz.func3, Tryz.ntmps3
  go_wp2_with fail
  refine HL.out.mono ?_
  rintro e w' ⟨rfl, rfl⟩
  go_wp2_with fail
  refine (alive_yes _).mono ?_
  rintro e w1 ⟨rfl, hb⟩
  have hbw1 := hb0.trans (hb.mono hb0.size)
  clear hb hb0 HL
  go_wp2_with fail
  refine (from_num (hA.below hbw1) (by decide)).mono ?_
  rintro e w2 ⟨aX, nX, cX, rfl, hX, hb2⟩
  have hbw2 := hbw1.trans (hb2.mono hbw1.size)
  clear hb2 hbw1
  go_wp2_with fail
  refine (from_num (hB.below hbw2) (by decide)).mono ?_
  rintro e w3 ⟨aY, nY, cY, rfl, hY, hb3⟩
  replace hX := hX.below hb3
  have hbw3 := hbw2.trans (hb3.mono hbw2.size)
  clear hb3 hbw2
  go_wp2_with fail
  refine (lent_any aA nA cA lA w3 HNA.out (rA.below hbw3) (by unfold MaxW; omega)).mono ?_
  rintro e w4 ⟨gm, cm, rfl, hcm1, hcm2, hatm, hb4⟩
  replace hX := hX.below hb4
  replace hY := hY.below hb4
  have hbw4 := hbw3.trans (hb4.mono hbw3.size)
  clear hb4 hbw3
  go_wp2_with fail
  refine (lent_any aB nB cB lB w4 HNB.out (rB.below hbw4) (by unfold MaxW; omega)).mono ?_
  rintro e w5 ⟨gn, cn, rfl, hcn1, hcn2, hatn, hb5⟩
  have HX := Lib.hid (hX.below hb5)
  have HY := Lib.hid (hY.below hb5)
  replace hatm := hatm.below hb5
  have hbw5 := hbw4.trans (hb5.mono hbw4.size)
  have HM : Hid (Num w5 (.slice (some ⟨gm, 0, none⟩) nA cm) A 40) := Lib.hid ⟨lA, ⟨some ⟨gm, 0, none⟩, cm, by rw [HNA.out], by rw [← HNA.out]; omega, hcm2, by have := Rd.of_at (hatm.take lA.length); rwa [List.take_left] at this, limA⟩, HAE.out.symm, by rw [← HNA.out]; exact h40A⟩
  have HN : Hid (Num w5 (.slice (some ⟨gn, 0, none⟩) nB cn) B 40) := Lib.hid ⟨lB, ⟨some ⟨gn, 0, none⟩, cn, by rw [HNB.out], by rw [← HNB.out]; omega, hcn2, by have := Rd.of_at (hatn.take lB.length); rwa [List.take_left] at this, limB⟩, HBE.out.symm, by rw [← HNB.out]; exact h40B⟩
  have HATM := Lib.hid hatm
  have HATN := Lib.hid hatn
  have HRA := Lib.hid (rA.below hbw5)
  have HRB := Lib.hid (rB.below hbw5)
  have HBW := Lib.hid hbw5
  have HLY := Lib.hid HY.out.len.1
  have HBN := Lib.hid (BN.new w5)
  clear hb5 hbw4 hX hY hatm hatn rA rB limA limB hA hB hbw5
  go_wp2_with fail
  go_loopw [12, 13, 14, 15, 16, 17, 18, 19, 20, 21, 22] (fun kk _ _ _ _ _ _ _ _ _ _ wr => ∃ (k : Nat) (vs : List Value), k ≤ 2 ∧ kk = .int .i64 k ∧ Hid (BN w5.heap.size w5 wr w5.heap.size vs (6 * k))) (fun kk _ _ _ _ _ _ _ _ _ _ _ => 2 - (intOf kk).toNat)
  case atStart => exact ⟨0, [], Nat.zero_le _, rfl, HBN⟩
  case round =>
    obtain ⟨k, vs, hk, rfl, HB⟩ := hrel
    clear HBN
    by_cases hk2 : k < 2
    · have hkI : (k : Int) < 2 := by omega
      have HZ := Lib.hid HB.out.size
      have HU0 := Lib.hid HB.out.under_size
      go_wp2_with fail
      refine (of_num (HM.out.below HB.out.below) (by decide)).mono ?_
      rintro e w6 ⟨a1, n1, c1, rfl, h1, hb⟩
      have S6 := hb.size
      replace HB := Lib.hid (HB.out.under hb)
      have H1 := Lib.hid h1
      have P1 := Lib.hid h1
      clear hb h1
      go_wp2_with fail
      refine (add2_num (p := 41) (HM.out.below HB.out.below) (HN.out.below HB.out.below) (by decide) (by decide) (by decide)).mono ?_
      rintro e w7 ⟨a2, n2, c2, rfl, h2, hb⟩
      have S7 := hb.size
      replace HB := Lib.hid (HB.out.under hb)
      replace H1 := Lib.hid (H1.out.below hb)
      have H2 := Lib.hid h2
      have P2 := Lib.hid h2
      clear hb h2
      go_wp2_with fail
      refine (mul_num (p := 80) cut (HM.out.below HB.out.below) (HN.out.below HB.out.below) (by decide) (by decide) hcut).mono ?_
      rintro e w8 ⟨a3, n3, c3, rfl, h3, hb⟩
      have S8 := hb.size
      replace HB := Lib.hid (HB.out.under hb)
      replace H1 := Lib.hid (H1.out.below hb)
      replace H2 := Lib.hid (H2.out.below hb)
      have H3 := Lib.hid h3
      have P3 := Lib.hid h3
      clear hb h3
      go_wp2_with fail
      refine (dm_both (HM.out.below HB.out.below) (HN.out.below HB.out.below) (by decide) (by decide)).mono ?_
      rintro e w9 ⟨a4, n4, c4, a5, n5, c5, okd, Q, R, rfl, h4, h5, hd, hb, hdc⟩
      have S9 := hb.size
      replace HB := Lib.hid (HB.out.under hb)
      replace H1 := Lib.hid (H1.out.below hb)
      replace H2 := Lib.hid (H2.out.below hb)
      replace H3 := Lib.hid (H3.out.below hb)
      have H4 := Lib.hid h4
      have P4 := Lib.hid h4
      have H5 := Lib.hid h5
      have P5 := Lib.hid h5
      have HD := Lib.hid hd
      have HDC := Lib.hid hdc
      clear hb h4 h5 hd hdc
      go_wp2_with fail
      refine (sub_both (HM.out.below HB.out.below) (HN.out.below HB.out.below) (by decide)).mono ?_
      rintro e w10 ⟨a6, n6, c6, oks, D, rfl, h6, hb, hsc⟩
      have S10 := hb.size
      replace HB := Lib.hid (HB.out.under hb)
      replace H1 := Lib.hid (H1.out.below hb)
      replace H2 := Lib.hid (H2.out.below hb)
      replace H3 := Lib.hid (H3.out.below hb)
      replace H4 := Lib.hid (H4.out.below hb)
      replace H5 := Lib.hid (H5.out.below hb)
      have H6 := Lib.hid h6
      have HSC := Lib.hid hsc
      have HO1 := Lib.hid (HU0.out.off P1.out (Nat.le_refl _))
      have hu1 := HU0.out.snoc P1.out S6 (Nat.le_refl _)
      have HO2 := Lib.hid (hu1.off P2.out (Nat.le_refl _))
      have hu2 := hu1.snoc P2.out S7 (Nat.le_refl _)
      have HO3 := Lib.hid (hu2.off P3.out (Nat.le_refl _))
      have hu3 := hu2.snoc P3.out S8 (Nat.le_refl _)
      have HO4 := Lib.hid (hu3.off P4.out (Nat.le_refl _))
      have ho5 := hu3.off P5.out (Nat.le_refl _)
      have HO5 : Hid (∀ u ∈ vs ++ [.slice a1 n1 c1] ++ [.slice a2 n2 c2] ++ [.slice a3 n3 c3] ++ [.slice a4 n4 c4], u.ownBlock = none ∨ u.ownBlock ≠ (Value.slice a5 n5 c5).ownBlock) := Lib.hid (by
        intro u hu
        rcases List.mem_append.1 hu with hu | hu
        · exact ho5 u hu
        · obtain rfl := List.mem_singleton.1 hu
          cases hub : (Value.slice a4 n4 c4).ownBlock with
          | none => exact Or.inl rfl
          | some b => exact Or.inr fun e => HD.out b hub e.symm)
      have hu5 := (hu3.snoc P4.out S9 (Nat.le_refl _)).snoc P5.out (Nat.le_refl _) (Nat.le_refl _)
      have HO6 := Lib.hid (hu5.off h6 (Nat.le_refl _))
      have HF := Lib.hid (Fr.refl w10)
      have HZS : Hid (w5.heap.size ≤ wr.heap.size ∧ w5.heap.size ≤ w6.heap.size ∧ w5.heap.size ≤ w7.heap.size ∧ w5.heap.size ≤ w8.heap.size ∧ w5.heap.size ≤ w9.heap.size) := Lib.hid (by have := HZ.out; omega)
      clear hb h6 hsc hu1 hu2 hu3 ho5 hu5 P1 P2 P3 P4 P5 HD HU0 HZ S6 S7 S8 S9 S10
      go_wp2_with fail
      refine (keep_bn HB.out (H1.out.fr HF.out) HO1.out HZS.out.1 (by omega) (by decide)).mono ?_
      rintro e w11 ⟨rfl, hB, hf⟩
      replace HB := Lib.hid hB
      replace HF := Lib.hid (HF.out.trans hf)
      clear hB hf HO1
      go_wp2_with fail
      refine (keep_bn HB.out (H2.out.fr HF.out) HO2.out HZS.out.2.1 (by omega) (by decide)).mono ?_
      rintro e w12 ⟨rfl, hB, hf⟩
      replace HB := Lib.hid hB
      replace HF := Lib.hid (HF.out.trans hf)
      clear hB hf HO2
      go_wp2_with fail
      refine (keep_bn HB.out (H3.out.fr HF.out) HO3.out HZS.out.2.2.1 (by omega) (by decide)).mono ?_
      rintro e w13 ⟨rfl, hB, hf⟩
      replace HB := Lib.hid hB
      replace HF := Lib.hid (HF.out.trans hf)
      clear hB hf HO3
      go_wp2_with fail
      refine (keep_bn HB.out (H4.out.fr HF.out) HO4.out HZS.out.2.2.2.1 (by omega) (by decide)).mono ?_
      rintro e w14 ⟨rfl, hB, hf⟩
      replace HB := Lib.hid hB
      replace HF := Lib.hid (HF.out.trans hf)
      clear hB hf HO4
      go_wp2_with fail
      refine (keep_bn HB.out (H5.out.fr HF.out) HO5.out HZS.out.2.2.2.1 (by omega) (by decide)).mono ?_
      rintro e w15 ⟨rfl, hB, hf⟩
      replace HB := Lib.hid hB
      replace HF := Lib.hid (HF.out.trans hf)
      clear hB hf HO5
      go_wp2_with fail
      refine (keep_bn HB.out (H6.out.fr HF.out) HO6.out HZS.out.2.2.2.2 (by omega) (by decide)).mono ?_
      rintro e w16 ⟨rfl, hB, hf⟩
      replace HB := Lib.hid hB
      replace HF := Lib.hid (HF.out.trans hf)
      clear hB hf HO6
      rcases HDC.out with ⟨rfl, hB0, rfl, rfl⟩ | ⟨rfl, hB0, rfl, rfl⟩
      · have hy0 : (0 : Int) < (nY : Int) := by
          have := HLY.out
          omega
        have HB0 := Lib.hid hB0
        clear hB0
        rcases HSC.out with ⟨rfl, hle, rfl⟩ | ⟨rfl, hle, rfl⟩
        · have hcm : 0 ≤ cmpI A B := cmpI_le0 hle
          obtain ⟨κ, hκ⟩ : ∃ κ, cmpI A B = κ := ⟨_, rfl⟩
          have HK := Lib.hid hκ
          rw [hκ] at hcm
          have HLE := Lib.hid hle
          clear hκ hle
          go_wp2_with fail
          refine (cmp_num (HM.out.below HB.out.below) (HN.out.below HB.out.below)).mono ?_
          rintro e w18 ⟨rfl, hb⟩
          rw [HK.out]
          replace HB := Lib.hid (HB.out.under hb)
          replace HF := Lib.hid (HF.out.trans (Fr.of_below hb))
          clear hb
          go_wp2_with fail
          refine (rcmp_num (HX.out.below HB.out.below) (HY.out.below HB.out.below)).mono ?_
          rintro e w19 ⟨rfl, hb⟩
          rw [HK.out]
          replace HB := Lib.hid (HB.out.under hb)
          replace HF := Lib.hid (HF.out.trans (Fr.of_below hb))
          clear hb
          go_wp2_with fail
          refine (is_num (H1.out.fr HF.out) (HX.out.below HB.out.below) (by decide)).mono ?_
          rintro e w20 ⟨rfl, hb⟩
          replace HB := Lib.hid (HB.out.under hb)
          replace HF := Lib.hid (HF.out.trans (Fr.of_below hb))
          clear hb
          go_wp2_with fail
          refine (radd_num (p := 81) (HX.out.below HB.out.below) (HY.out.below HB.out.below) (by decide) (by decide) (by decide)).mono ?_
          rintro e w21 ⟨aR, nR, cR, rfl, hR, hb⟩
          replace HB := Lib.hid (HB.out.under hb)
          replace HF := Lib.hid (HF.out.trans (Fr.of_below hb))
          clear hb
          go_wp2_with fail
          refine (is_num (H2.out.fr HF.out) hR (by decide)).mono ?_
          rintro e w22 ⟨rfl, hb⟩
          replace HB := Lib.hid (HB.out.under hb)
          replace HF := Lib.hid (HF.out.trans (Fr.of_below hb))
          clear hb hR
          go_wp2_with fail
          refine (rmul_num (p := 160) (HX.out.below HB.out.below) (HY.out.below HB.out.below) (by decide) (by decide)).mono ?_
          rintro e w23 ⟨aR, nR, cR, rfl, hR, hb⟩
          replace HB := Lib.hid (HB.out.under hb)
          replace HF := Lib.hid (HF.out.trans (Fr.of_below hb))
          clear hb
          go_wp2_with fail
          refine (is_num (H3.out.fr HF.out) hR (by decide)).mono ?_
          rintro e w24 ⟨rfl, hb⟩
          replace HB := Lib.hid (HB.out.under hb)
          replace HF := Lib.hid (HF.out.trans (Fr.of_below hb))
          clear hb hR
          go_wp2_with fail
          refine (rcmp_num (HX.out.below HB.out.below) (HY.out.below HB.out.below)).mono ?_
          rintro e w25 ⟨rfl, hb⟩
          rw [HK.out]
          replace HB := Lib.hid (HB.out.under hb)
          replace HF := Lib.hid (HF.out.trans (Fr.of_below hb))
          clear hb
          go_wp2_with fail
          refine (rdm_num (HX.out.below HB.out.below) (HY.out.below HB.out.below) HB0.out (by decide)).mono ?_
          rintro e w26 ⟨aU, nU, cU, aV, nV, cV, rfl, hU, hV, hb⟩
          replace HB := Lib.hid (HB.out.under hb)
          replace HF := Lib.hid (HF.out.trans (Fr.of_below hb))
          clear hb
          go_wp2_with fail
          refine (is_num (H4.out.fr HF.out) hU (by decide)).mono ?_
          rintro e w27 ⟨rfl, hb⟩
          replace HB := Lib.hid (HB.out.under hb)
          replace HF := Lib.hid (HF.out.trans (Fr.of_below hb))
          replace hV := hV.below hb
          clear hb hU
          go_wp2_with fail
          refine (is_num (H5.out.fr HF.out) hV (by decide)).mono ?_
          rintro e w28 ⟨rfl, hb⟩
          replace HB := Lib.hid (HB.out.under hb)
          replace HF := Lib.hid (HF.out.trans (Fr.of_below hb))
          clear hb hV
          go_wp2_with fail
          refine (rsub_num (HX.out.below HB.out.below) (HY.out.below HB.out.below) HLE.out (by decide)).mono ?_
          rintro e w29 ⟨aR, nR, cR, rfl, hR, hb⟩
          replace HB := Lib.hid (HB.out.under hb)
          replace HF := Lib.hid (HF.out.trans (Fr.of_below hb))
          clear hb
          go_wp2_with fail
          refine (is_num (H6.out.fr HF.out) hR (by decide)).mono ?_
          rintro e w30 ⟨rfl, hb⟩
          replace HB := Lib.hid (HB.out.under hb)
          replace HF := Lib.hid (HF.out.trans (Fr.of_below hb))
          clear hb hR
          go_wp2_with fail
          go_roundw
          case rel => exact ⟨k + 1, _, by omega, by go_num, HB⟩
          case measure => simp [intOf]; omega
        · have hcm : ¬ 0 ≤ cmpI A B := by rw [cmpI_lt hle]; decide
          obtain ⟨κ, hκ⟩ : ∃ κ, cmpI A B = κ := ⟨_, rfl⟩
          have HK := Lib.hid hκ
          rw [hκ] at hcm
          obtain ⟨y6, hy6⟩ : ∃ y6 : Int, (n6 : Int) = y6 := ⟨_, rfl⟩
          have h6z : ¬ (0 : Int) < y6 := by
            have := H6.out.len.1
            omega
          clear hκ hle
          go_wp2_with fail
          refine (cmp_num (HM.out.below HB.out.below) (HN.out.below HB.out.below)).mono ?_
          rintro e w18 ⟨rfl, hb⟩
          rw [HK.out]
          replace HB := Lib.hid (HB.out.under hb)
          replace HF := Lib.hid (HF.out.trans (Fr.of_below hb))
          clear hb
          go_wp2_with fail
          refine (rcmp_num (HX.out.below HB.out.below) (HY.out.below HB.out.below)).mono ?_
          rintro e w19 ⟨rfl, hb⟩
          rw [HK.out]
          replace HB := Lib.hid (HB.out.under hb)
          replace HF := Lib.hid (HF.out.trans (Fr.of_below hb))
          clear hb
          go_wp2_with fail
          refine (is_num (H1.out.fr HF.out) (HX.out.below HB.out.below) (by decide)).mono ?_
          rintro e w20 ⟨rfl, hb⟩
          replace HB := Lib.hid (HB.out.under hb)
          replace HF := Lib.hid (HF.out.trans (Fr.of_below hb))
          clear hb
          go_wp2_with fail
          refine (radd_num (p := 81) (HX.out.below HB.out.below) (HY.out.below HB.out.below) (by decide) (by decide) (by decide)).mono ?_
          rintro e w21 ⟨aR, nR, cR, rfl, hR, hb⟩
          replace HB := Lib.hid (HB.out.under hb)
          replace HF := Lib.hid (HF.out.trans (Fr.of_below hb))
          clear hb
          go_wp2_with fail
          refine (is_num (H2.out.fr HF.out) hR (by decide)).mono ?_
          rintro e w22 ⟨rfl, hb⟩
          replace HB := Lib.hid (HB.out.under hb)
          replace HF := Lib.hid (HF.out.trans (Fr.of_below hb))
          clear hb hR
          go_wp2_with fail
          refine (rmul_num (p := 160) (HX.out.below HB.out.below) (HY.out.below HB.out.below) (by decide) (by decide)).mono ?_
          rintro e w23 ⟨aR, nR, cR, rfl, hR, hb⟩
          replace HB := Lib.hid (HB.out.under hb)
          replace HF := Lib.hid (HF.out.trans (Fr.of_below hb))
          clear hb
          go_wp2_with fail
          refine (is_num (H3.out.fr HF.out) hR (by decide)).mono ?_
          rintro e w24 ⟨rfl, hb⟩
          replace HB := Lib.hid (HB.out.under hb)
          replace HF := Lib.hid (HF.out.trans (Fr.of_below hb))
          clear hb hR
          go_wp2_with fail
          refine (rcmp_num (HX.out.below HB.out.below) (HY.out.below HB.out.below)).mono ?_
          rintro e w25 ⟨rfl, hb⟩
          rw [HK.out]
          replace HB := Lib.hid (HB.out.under hb)
          replace HF := Lib.hid (HF.out.trans (Fr.of_below hb))
          clear hb
          go_wp2_with fail
          refine (rdm_num (HX.out.below HB.out.below) (HY.out.below HB.out.below) HB0.out (by decide)).mono ?_
          rintro e w26 ⟨aU, nU, cU, aV, nV, cV, rfl, hU, hV, hb⟩
          replace HB := Lib.hid (HB.out.under hb)
          replace HF := Lib.hid (HF.out.trans (Fr.of_below hb))
          clear hb
          go_wp2_with fail
          refine (is_num (H4.out.fr HF.out) hU (by decide)).mono ?_
          rintro e w27 ⟨rfl, hb⟩
          replace HB := Lib.hid (HB.out.under hb)
          replace HF := Lib.hid (HF.out.trans (Fr.of_below hb))
          replace hV := hV.below hb
          clear hb hU
          go_wp2_with fail
          refine (is_num (H5.out.fr HF.out) hV (by decide)).mono ?_
          rintro e w28 ⟨rfl, hb⟩
          replace HB := Lib.hid (HB.out.under hb)
          replace HF := Lib.hid (HF.out.trans (Fr.of_below hb))
          clear hb hV
          go_wp2_with fail
          go_roundw
          case rel => exact ⟨k + 1, _, by omega, by go_num, HB⟩
          case measure => simp [intOf]; omega
      · obtain ⟨yI, hyI⟩ : ∃ yI : Int, (nY : Int) = yI := ⟨_, rfl⟩
        have hy0 : ¬ (0 : Int) < yI := by
          have := HLY.out
          omega
        obtain ⟨t45, h45⟩ : ∃ t45, n4 + n5 = t45 := ⟨_, rfl⟩
        have hn4 : n4 ≤ 40 := H4.out.len.2
        have hn5 : n5 ≤ 40 := H5.out.len.2
        have h45i : (n4 : Int) + (n5 : Int) = (t45 : Int) := by omega
        have h45z : ¬ (0 : Int) < (t45 : Int) := by
          have := H4.out.len.1
          have := H5.out.len.1
          omega
        have H45 := Lib.hid h45
        clear hB0 h45
        rcases HSC.out with ⟨rfl, hle, rfl⟩ | ⟨rfl, hle, rfl⟩
        · have hcm : 0 ≤ cmpI A B := cmpI_le0 hle
          obtain ⟨κ, hκ⟩ : ∃ κ, cmpI A B = κ := ⟨_, rfl⟩
          have HK := Lib.hid hκ
          rw [hκ] at hcm
          have HLE := Lib.hid hle
          clear hκ hle
          go_wp2_with fail
          refine (cmp_num (HM.out.below HB.out.below) (HN.out.below HB.out.below)).mono ?_
          rintro e w18 ⟨rfl, hb⟩
          rw [HK.out]
          replace HB := Lib.hid (HB.out.under hb)
          replace HF := Lib.hid (HF.out.trans (Fr.of_below hb))
          clear hb
          go_wp2_with fail
          refine (rcmp_num (HX.out.below HB.out.below) (HY.out.below HB.out.below)).mono ?_
          rintro e w19 ⟨rfl, hb⟩
          rw [HK.out]
          replace HB := Lib.hid (HB.out.under hb)
          replace HF := Lib.hid (HF.out.trans (Fr.of_below hb))
          clear hb
          go_wp2_with fail
          refine (is_num (H1.out.fr HF.out) (HX.out.below HB.out.below) (by decide)).mono ?_
          rintro e w20 ⟨rfl, hb⟩
          replace HB := Lib.hid (HB.out.under hb)
          replace HF := Lib.hid (HF.out.trans (Fr.of_below hb))
          clear hb
          go_wp2_with fail
          refine (radd_num (p := 81) (HX.out.below HB.out.below) (HY.out.below HB.out.below) (by decide) (by decide) (by decide)).mono ?_
          rintro e w21 ⟨aR, nR, cR, rfl, hR, hb⟩
          replace HB := Lib.hid (HB.out.under hb)
          replace HF := Lib.hid (HF.out.trans (Fr.of_below hb))
          clear hb
          go_wp2_with fail
          refine (is_num (H2.out.fr HF.out) hR (by decide)).mono ?_
          rintro e w22 ⟨rfl, hb⟩
          replace HB := Lib.hid (HB.out.under hb)
          replace HF := Lib.hid (HF.out.trans (Fr.of_below hb))
          clear hb hR
          go_wp2_with fail
          refine (rmul_num (p := 160) (HX.out.below HB.out.below) (HY.out.below HB.out.below) (by decide) (by decide)).mono ?_
          rintro e w23 ⟨aR, nR, cR, rfl, hR, hb⟩
          replace HB := Lib.hid (HB.out.under hb)
          replace HF := Lib.hid (HF.out.trans (Fr.of_below hb))
          clear hb
          go_wp2_with fail
          refine (is_num (H3.out.fr HF.out) hR (by decide)).mono ?_
          rintro e w24 ⟨rfl, hb⟩
          replace HB := Lib.hid (HB.out.under hb)
          replace HF := Lib.hid (HF.out.trans (Fr.of_below hb))
          clear hb hR
          go_wp2_with fail
          refine (rcmp_num (HX.out.below HB.out.below) (HY.out.below HB.out.below)).mono ?_
          rintro e w25 ⟨rfl, hb⟩
          rw [HK.out]
          replace HB := Lib.hid (HB.out.under hb)
          replace HF := Lib.hid (HF.out.trans (Fr.of_below hb))
          clear hb
          go_wp2_with fail
          refine (rsub_num (HX.out.below HB.out.below) (HY.out.below HB.out.below) HLE.out (by decide)).mono ?_
          rintro e w26 ⟨aR, nR, cR, rfl, hR, hb⟩
          replace HB := Lib.hid (HB.out.under hb)
          replace HF := Lib.hid (HF.out.trans (Fr.of_below hb))
          clear hb
          go_wp2_with fail
          refine (is_num (H6.out.fr HF.out) hR (by decide)).mono ?_
          rintro e w27 ⟨rfl, hb⟩
          replace HB := Lib.hid (HB.out.under hb)
          replace HF := Lib.hid (HF.out.trans (Fr.of_below hb))
          clear hb hR
          go_wp2_with fail
          go_roundw
          case rel => exact ⟨k + 1, _, by omega, by go_num, HB⟩
          case measure => simp [intOf]; omega
        · have hcm : ¬ 0 ≤ cmpI A B := by rw [cmpI_lt hle]; decide
          obtain ⟨κ, hκ⟩ : ∃ κ, cmpI A B = κ := ⟨_, rfl⟩
          have HK := Lib.hid hκ
          rw [hκ] at hcm
          obtain ⟨y6, hy6⟩ : ∃ y6 : Int, (n6 : Int) = y6 := ⟨_, rfl⟩
          have h6z : ¬ (0 : Int) < y6 := by
            have := H6.out.len.1
            omega
          clear hκ hle
          go_wp2_with fail
          refine (cmp_num (HM.out.below HB.out.below) (HN.out.below HB.out.below)).mono ?_
          rintro e w18 ⟨rfl, hb⟩
          rw [HK.out]
          replace HB := Lib.hid (HB.out.under hb)
          replace HF := Lib.hid (HF.out.trans (Fr.of_below hb))
          clear hb
          go_wp2_with fail
          refine (rcmp_num (HX.out.below HB.out.below) (HY.out.below HB.out.below)).mono ?_
          rintro e w19 ⟨rfl, hb⟩
          rw [HK.out]
          replace HB := Lib.hid (HB.out.under hb)
          replace HF := Lib.hid (HF.out.trans (Fr.of_below hb))
          clear hb
          go_wp2_with fail
          refine (is_num (H1.out.fr HF.out) (HX.out.below HB.out.below) (by decide)).mono ?_
          rintro e w20 ⟨rfl, hb⟩
          replace HB := Lib.hid (HB.out.under hb)
          replace HF := Lib.hid (HF.out.trans (Fr.of_below hb))
          clear hb
          go_wp2_with fail
          refine (radd_num (p := 81) (HX.out.below HB.out.below) (HY.out.below HB.out.below) (by decide) (by decide) (by decide)).mono ?_
          rintro e w21 ⟨aR, nR, cR, rfl, hR, hb⟩
          replace HB := Lib.hid (HB.out.under hb)
          replace HF := Lib.hid (HF.out.trans (Fr.of_below hb))
          clear hb
          go_wp2_with fail
          refine (is_num (H2.out.fr HF.out) hR (by decide)).mono ?_
          rintro e w22 ⟨rfl, hb⟩
          replace HB := Lib.hid (HB.out.under hb)
          replace HF := Lib.hid (HF.out.trans (Fr.of_below hb))
          clear hb hR
          go_wp2_with fail
          refine (rmul_num (p := 160) (HX.out.below HB.out.below) (HY.out.below HB.out.below) (by decide) (by decide)).mono ?_
          rintro e w23 ⟨aR, nR, cR, rfl, hR, hb⟩
          replace HB := Lib.hid (HB.out.under hb)
          replace HF := Lib.hid (HF.out.trans (Fr.of_below hb))
          clear hb
          go_wp2_with fail
          refine (is_num (H3.out.fr HF.out) hR (by decide)).mono ?_
          rintro e w24 ⟨rfl, hb⟩
          replace HB := Lib.hid (HB.out.under hb)
          replace HF := Lib.hid (HF.out.trans (Fr.of_below hb))
          clear hb hR
          go_wp2_with fail
          refine (rcmp_num (HX.out.below HB.out.below) (HY.out.below HB.out.below)).mono ?_
          rintro e w25 ⟨rfl, hb⟩
          rw [HK.out]
          replace HB := Lib.hid (HB.out.under hb)
          replace HF := Lib.hid (HF.out.trans (Fr.of_below hb))
          clear hb
          go_wp2_with fail
          go_roundw
          case rel => exact ⟨k + 1, _, by omega, by go_num, HB⟩
          case measure => simp [intOf]; omega
    · obtain rfl : k = 2 := by omega
      go_wp2_with fail
      refine (stays_yes gm nA cm aA cA lA wr HNA.out hcm1 hcm2 hA1 hA2 (HATM.out.below HB.out.below) (HRA.out.below HB.out.below)).mono ?_
      rintro e w6 ⟨rfl, hb⟩
      replace HB := Lib.hid (HB.out.under hb)
      clear hb
      go_wp2_with fail
      refine (stays_yes gn nB cn aB cB lB w6 HNB.out hcn1 hcn2 hB1 hB2 (HATN.out.below HB.out.below) (HRB.out.below HB.out.below)).mono ?_
      rintro e w7 ⟨rfl, hb⟩
      replace HB := Lib.hid (HB.out.under hb)
      clear hb
      go_wp2_with fail
      refine (apart_bn HB.out (by decide)).mono ?_
      rintro e w8 ⟨rfl, hb⟩
      go_wp2_with fail
      go_ret
      exact ⟨rfl, HBW.out.trans (hb.mono HBW.out.size)⟩
end Go.Proofs.YthfcncapgfkkjaaGreatDoor
