/-
  RefQuo: The reference's quotient of dyads: it lies on its side of the exact one.
  Flo5: The reference's Finite, Step, signed; the statement's own same; Step of what is no number.
  FloR: What the reference's Float makes of a number, as words.
  Dyad2: Contracts of package dyad: Top, align, Cmp, Of, on numbers of any exponent.
  Dyad3: Contracts of package dyad: Cmp, Of, on numbers of any exponent; what flo.Dyad returns of words that are no numbers.
  FloA: compasslaw4.alive answers true.
  RefFlo: The reference's Float.
  Is3: compasslaw3.Is; the reference's Float of any number.
  Real: compasslaw3.Real: the program's dyad of the reference's.
  FloQuo: Quotients and roots of float64: each lies between the float64 beside the exact one.
  GapM: What lies between the corners of two ranges; an end that has been stepped outward. No program is spoken of here.
  FloSub: The difference of two float64 lies between the float64 beside the exact difference. No program is spoken of here.
-/
import Derived.Test.YtjmipbljoblnnaaDoorPk27
import Derived.Test.YtjmipbljoblnnaaDoorPk26
import Derived.Test.YtjmipbljoblnnaaDoorPk22

namespace Go.Proofs.YtjmipbljoblnnaaDoor
open Go.RowKit

def IsDM (A B : Int) (m k : Nat) (v : Value) (w : World) : Prop := ∃ a n c a2 n2 c2, v = .tuple #[.slice a n c, .slice a2 n2 c2] ∧ RN w (.slice a n c) A m ∧ RN w (.slice a2 n2 c2) B k
theorem IsDM.keeps (A B : Int) (m k : Nat) : Keeps (IsDM A B m k) := fun _ _ _ hb ⟨a, n, c, a2, n2, c2, h1, h2, h3⟩ => ⟨a, n, c, a2, n2, c2, h1, h2.below hb, h3.below hb⟩
def cutX (N : Int) (p : Nat) (away : Bool) (rest : Bool) : Int := match rest with
  | true => cutW N p away
  | false => cutV N p away
theorem rcut_any {w : World} (L : Nat) (neg rest : Bool) {a : Option Addr} {n c : Nat} {N : Int} {m E0 b : Nat} (E dir : Int) (p : Nat) (h : RN w (.slice a n c) N m) (hE : E + (L : Int) = (E0 : Int)) (hm : m ≤ 1000) (hm2 : 2 ≤ m) (heb : E0 + 64 * (m + 1) ≤ b) (hLb : L ≤ b) (hb : b ≤ 900000) (hp1 : 1 ≤ p) (hp2 : p ≤ 65536) :
    Calls Tryd.prog 43 #[.bool neg, .slice a n c, .int .i64 E, .bool rest, .int .i64 (p : Int), .int .i64 dir] w fun e w' => RetQZ L w (sg neg (cutX N p (neg == decide (dir < 0)) rest) * 2 ^ (E0 + (nb N - p))) (m + 1) b e w' := by
  cases rest
  · have hN := h.nonneg
    by_cases h0 : N = 0
    · have e : cutX N p (neg == decide (dir < 0)) false = N := by
        show cutV N p _ = N
        unfold cutV
        rw [if_pos (by rw [h0, show nb 0 = 0 by decide]; exact Nat.zero_le _)]
      rw [e]
      exact rcut_zero L neg E dir p h hE hm hm2 heb hLb hb hp1 hp2 h0
    · exact rcut_num L neg E dir p h hE hm hm2 heb hLb hb hp1 hp2 (by omega)
  · exact rcut_rest L neg E dir p h hE hm hm2 heb hLb hb hp1 hp2
theorem cutX_down {N : Int} (p : Nat) (rest : Bool) (h : 0 ≤ N) : cutX N p false rest * 2 ^ (nb N - p) ≤ N ∧ 0 ≤ cutX N p false rest := by
  have hp : (0 : Int) < 2 ^ (nb N - p) := Int.pow_pos (by decide)
  have key : (if nb N ≤ p then N else N / 2 ^ (nb N - p)) * 2 ^ (nb N - p) ≤ N ∧ 0 ≤ (if nb N ≤ p then N else N / 2 ^ (nb N - p)) := by
    split
    · rename_i hs
      rw [show nb N - p = 0 by omega]
      omega
    · exact ⟨Int.ediv_mul_le _ (by omega), Int.ediv_nonneg h (by omega)⟩
  cases rest
  · show cutV N p false * _ ≤ N ∧ 0 ≤ cutV N p false
    have e : cutV N p false = (if nb N ≤ p then N else N / 2 ^ (nb N - p)) := by
      unfold cutV
      split
      · rfl
      · simp
    rw [e]; exact key
  · show cutW N p false * _ ≤ N ∧ 0 ≤ cutW N p false
    have e : cutW N p false = (if nb N ≤ p then N else N / 2 ^ (nb N - p)) := by
      unfold cutW
      simp
    rw [e]; exact key
theorem cutX_up {N : Int} (p : Nat) (rest : Bool) : N + (if rest = true then 1 else 0) ≤ cutX N p true rest * 2 ^ (nb N - p) := by
  have hp : (0 : Int) < 2 ^ (nb N - p) := Int.pow_pos (by decide)
  have hd := Int.emod_add_mul_ediv N (2 ^ (nb N - p))
  have hm0 := Int.emod_nonneg N (show (2 : Int) ^ (nb N - p) ≠ 0 by omega)
  have hm1 := Int.emod_lt_of_pos N hp
  obtain ⟨J, hJ⟩ : ∃ J : Int, 2 ^ (nb N - p) = J := ⟨_, rfl⟩
  cases rest
  · show N + (if false = true then 1 else 0) ≤ cutV N p true * _
    unfold cutV
    by_cases hs : nb N ≤ p
    · rw [if_pos hs, show nb N - p = 0 by omega]; simp
    · rw [if_neg hs]
      rw [hJ] at hd hm0 hm1 hp ⊢
      obtain ⟨F, hF⟩ : ∃ F, N / J = F := ⟨_, rfl⟩
      rw [hF] at hd ⊢
      by_cases he : F * J = N
      · simp [he]
      · simp [he, Int.add_mul]
        rw [Int.mul_comm] at hd
        omega
  · show N + (if true = true then 1 else 0) ≤ cutW N p true * _
    unfold cutW
    by_cases hs : nb N ≤ p
    · rw [if_pos hs, show nb N - p = 0 by omega]; simp
    · rw [if_neg hs]
      rw [hJ] at hd hm0 hm1 hp ⊢
      obtain ⟨F, hF⟩ : ∃ F, N / J = F := ⟨_, rfl⟩
      rw [hF] at hd ⊢
      simp [Int.add_mul]
      rw [Int.mul_comm] at hd
      omega
/-- What a rounded quotient of Zx and Zy (of the same places) is: on its side of the exact one. -/
def QuoSide (Zr Zx Zy : Int) (Lq : Nat) (dir : Int) : Prop :=
  (dir < 0 → Zr * absI Zy ≤ (if Zy < 0 then -Zx else Zx) * 2 ^ Lq) ∧ (0 < dir → (if Zy < 0 then -Zx else Zx) * 2 ^ Lq ≤ Zr * absI Zy)
def RetQuo (Lq : Nat) (w : World) (Zx Zy dir : Int) (m b : Nat) (e : Ending) (w' : World) : Prop :=
  ∃ Zr, RetQZ Lq w Zr m b e w' ∧ (dir < 0 → Zr * absI Zy ≤ (if Zy < 0 then -Zx else Zx) * 2 ^ Lq) ∧ (0 < dir → (if Zy < 0 then -Zx else Zx) * 2 ^ Lq ≤ Zr * absI Zy)
theorem quo_bounds {p q : Bool} {N M Zx Zy QQ : Int} {E0 G0 n0 e0 Lq : Nat} {rs : Bool} (h1 : Zx = sg p N * 2 ^ E0) (h2 : Zy = sg q M * 2 ^ G0) (hN : 0 ≤ N) (hM : 0 < M) (hQ : N * 2 ^ n0 / M = QQ) (hrs : rs = decide (¬ N * 2 ^ n0 % M = 0)) (hexp : n0 + e0 + G0 = E0 + Lq) (dir : Int) (pr : Nat) :
    QuoSide (sg (p != q) (cutX QQ pr ((p != q) == decide (dir < 0)) rs) * 2 ^ (e0 + (nb QQ - pr))) Zx Zy Lq dir := by
  have hM0 : M ≠ 0 := by omega
  have hdiv := Int.emod_add_mul_ediv (N * 2 ^ n0) M
  have hr0 := Int.emod_nonneg (N * 2 ^ n0) hM0
  have hr1 := Int.emod_lt_of_pos (N * 2 ^ n0) hM
  have hp0 : (0 : Int) < 2 ^ n0 := Int.pow_pos (by decide)
  have hQ0 : 0 ≤ QQ := by rw [← hQ]; exact Int.ediv_nonneg (Int.mul_nonneg hN (by omega)) (by omega)
  rw [hQ] at hdiv
  obtain ⟨A, hA⟩ : ∃ A, N * 2 ^ n0 = A := ⟨_, rfl⟩
  rw [hA] at hdiv hr0 hr1 hrs
  obtain ⟨R, hR⟩ : ∃ R, A % M = R := ⟨_, rfl⟩
  rw [hR] at hdiv hr0 hr1 hrs
  obtain ⟨j, hj⟩ : ∃ j, nb QQ - pr = j := ⟨_, rfl⟩
  have down : cutX QQ pr false rs * 2 ^ j * M ≤ A := by
    have h := (cutX_down pr rs hQ0).1
    rw [hj] at h
    have h2 := Int.mul_le_mul_of_nonneg_right h (show 0 ≤ M by omega)
    rw [Int.mul_comm QQ M] at h2
    omega
  have up : A ≤ cutX QQ pr true rs * 2 ^ j * M := by
    have h := cutX_up (N := QQ) pr rs
    rw [hj] at h
    have h2 := Int.mul_le_mul_of_nonneg_right h (show 0 ≤ M by omega)
    refine Int.le_trans ?_ h2
    rw [Int.add_mul, Int.mul_comm QQ M]
    by_cases hz : R = 0
    · rw [← hdiv, hz, hrs, hz]; simp
    · rw [hrs]; simp [hz]; omega
  rw [hj]
  have hP : (0 : Int) < 2 ^ (e0 + G0) := Int.pow_pos (by decide)
  have hG : (0 : Int) < 2 ^ G0 := Int.pow_pos (by decide)
  have habs : absI Zy = M * 2 ^ G0 := by
    have hpos : 0 < M * 2 ^ G0 := Int.mul_pos hM hG
    rw [h2]
    unfold absI sg
    cases q
    · simp only [Bool.false_eq_true, if_false]
      rw [if_neg (by omega)]
    · simp only [if_true]
      rw [Int.neg_mul, if_pos (by omega)]
      omega
  have hsx : (if Zy < 0 then -Zx else Zx) = sg (p != q) N * 2 ^ E0 := by
    have hpos : 0 < M * 2 ^ G0 := Int.mul_pos hM hG
    rw [h1, h2]
    cases p <;> cases q <;> simp only [sg, bne_self_eq_false, Bool.true_bne, Bool.false_bne, Bool.not_false, if_true, if_false, Bool.false_eq_true, Int.neg_mul]
    · rw [if_neg (by omega)]
    · rw [if_pos (by omega)]
    · rw [if_neg (by omega)]
    · rw [if_pos (by omega)]; omega
  have lhs : ∀ C : Int, sg (p != q) C * 2 ^ (e0 + j) * (M * 2 ^ G0) = sg (p != q) (C * 2 ^ j * M) * 2 ^ (e0 + G0) := by
    intro C
    rw [Int.pow_add, Int.pow_add]
    cases (p != q) <;> simp only [sg, if_true, if_false, Bool.false_eq_true] <;> grind
  have rhs : sg (p != q) N * 2 ^ E0 * 2 ^ Lq = sg (p != q) A * 2 ^ (e0 + G0) := by
    rw [Int.mul_assoc, ← Int.pow_add, ← hexp, ← hA, show n0 + e0 + G0 = n0 + (e0 + G0) by omega, Int.pow_add]
    cases (p != q) <;> simp only [sg, if_true, if_false, Bool.false_eq_true] <;> grind
  unfold QuoSide
  rw [habs, hsx, lhs, rhs]
  constructor
  · intro hd
    rw [decide_eq_true hd]
    refine Int.mul_le_mul_of_nonneg_right ?_ (by omega)
    cases (p != q)
    · simp only [sg, if_false, Bool.false_eq_true]
      exact down
    · simp only [sg, if_true]
      exact Int.neg_le_neg up
  · intro hd
    rw [decide_eq_false (by omega)]
    refine Int.mul_le_mul_of_nonneg_right ?_ (by omega)
    cases (p != q)
    · simp only [sg, if_false, Bool.false_eq_true]
      exact up
    · simp only [sg, if_true]
      exact Int.neg_le_neg down
set_option maxRecDepth 100000 in
set_option maxHeartbeats 2000000 in
theorem rquo_num {L : Nat} {w : World} {p q : Bool} {a a2 : Option Addr} {n c n2 c2 : Nat} {E G : Int} {Zx Zy : Int} {m k b d : Nat} (pr Lq bb : Nat) (dir : Int) (hX : RQ L w (.agg #[.bool p, .slice a n c, .int .i64 (E : Int)]) Zx m b) (hY : RQ L w (.agg #[.bool q, .slice a2 n2 c2, .int .i64 (G : Int)]) Zy k d) (hy : Zy ≠ 0) (hm : m ≤ 100) (hk : k ≤ 100) (hp1 : 1 ≤ pr) (hp2 : pr ≤ 1000) (hLb : L ≤ b) (hLq : d + pr + 2 + 32 * k ≤ Lq) (hbb : b + Lq + 64 * 302 ≤ bb) (hb9 : bb ≤ 900000) (hd9 : d ≤ 900000) :
    Calls Tryd.prog 19 #[.agg #[.bool p, .slice a n c, .int .i64 (E : Int)], .agg #[.bool q, .slice a2 n2 c2, .int .i64 (G : Int)], .int .i64 (pr : Int), .int .i64 dir] w fun e w' => RetQuo Lq w Zx Zy dir 301 bb e w' := by
  obtain ⟨N, E0, h1, hz1, hEE, -, -, hE⟩ := hX.open
  obtain ⟨M, G0, h2, hz2, hGG, -, -, hG⟩ := hY.open
  have hN0 := h1.nonneg
  have hM00 := h2.nonneg
  have hM0 : M ≠ 0 := fun e => hy (by rw [hz2, e]; cases q <;> simp [sg])
  have hMp : 0 < M := by omega
  obtain ⟨Bm, hBm⟩ : ∃ B, nb M = B := ⟨_, rfl⟩
  obtain ⟨An, hAn⟩ : ∃ B, nb N = B := ⟨_, rfl⟩
  have hBmb : Bm ≤ 32 * k := hBm ▸ rn_nb h2
  have hAnb : An ≤ 32 * m := hAn ▸ rn_nb h1
  obtain ⟨pp, hpp⟩ : ∃ T : Int, (pr : Int) + 2 = T := ⟨_, rfl⟩
  obtain ⟨T1, hT1⟩ : ∃ T : Int, pp + (Bm : Int) = T := ⟨_, rfl⟩
  obtain ⟨T2, hT2⟩ : ∃ T : Int, T1 - (An : Int) = T := ⟨_, rfl⟩
  obtain ⟨n0, hn0, hn0b⟩ : ∃ n0 : Nat, max T2 0 = (n0 : Int) ∧ n0 ≤ pr + 2 + 32 * k := ⟨(max T2 0).toNat, by omega, by omega⟩
  have hw1 : IntKind.i64.wrap ((pr : Int) + 2) = pp := by rw [IntKind.wrap_i64]; omega
  have hw2 : IntKind.i64.wrap (pp + (Bm : Int)) = T1 := by rw [IntKind.wrap_i64]; omega
  have hw3 : IntKind.i64.wrap (T1 - (An : Int)) = T2 := by rw [IntKind.wrap_i64]; omega
  obtain ⟨T3, hT3⟩ : ∃ T : Int, E - G = T := ⟨_, rfl⟩
  obtain ⟨T4, hT4⟩ : ∃ T : Int, T3 - (n0 : Int) = T := ⟨_, rfl⟩
  have hw4 : IntKind.i64.wrap (E - G) = T3 := by rw [IntKind.wrap_i64]; omega
  have hw5 : IntKind.i64.wrap (T3 - (n0 : Int)) = T4 := by rw [IntKind.wrap_i64]; omega
  obtain ⟨e0, he0⟩ : ∃ e0 : Nat, T4 + (Lq : Int) = (e0 : Int) := ⟨(T4 + (Lq : Int)).toNat, by omega⟩
  have hT4L := he0
  have hexp : n0 + e0 + G0 = E0 + Lq := by omega
  have he0b : e0 + 64 * 301 ≤ bb := by omega
  have hLqb : Lq ≤ bb := by omega
  obtain ⟨w1, hw1'⟩ : ∃ w1, w.alloc (.cells #[.bool p, .slice a n c, .int .i64 (E : Int)] 31) = w1 := ⟨_, rfl⟩
  obtain ⟨w2, hw2'⟩ : ∃ w2, w1.alloc (.cells #[.bool q, .slice a2 n2 c2, .int .i64 (G : Int)] 31) = w2 := ⟨_, rfl⟩
  obtain ⟨w3, hw3'⟩ : ∃ w3, w2.alloc (.cells #[.bool false, .slice none 0 0, .int .i64 0] 31) = w3 := ⟨_, rfl⟩
  have hb1 : Below w.heap.size w w1 := hw1' ▸ below_alloc w _
  have hb12 : Below w1.heap.size w1 w2 := hw2' ▸ below_alloc w1 _
  have hb23 : Below w2.heap.size w2 w3 := hw3' ▸ below_alloc w2 _
  have hb2 : Below w.heap.size w w2 := hb1.trans (hb12.mono hb1.size)
  have hb3 : Below w.heap.size w w3 := hb2.trans (hb23.mono hb2.size)
  have hc1 : w3.heap[w.heap.size]? = some (.cells #[.bool p, .slice a n c, .int .i64 (E : Int)] 31 (0, 0)) := slot_kept (slot_kept (hw1' ▸ heap_alloc_new w _) hb12) hb23
  have hc2 : w3.heap[w1.heap.size]? = some (.cells #[.bool q, .slice a2 n2 c2, .int .i64 (G : Int)] 31 (0, 0)) := slot_kept (hw2' ▸ heap_alloc_new w1 _) hb23
  have hc3 : w3.heap[w2.heap.size]? = some (.cells #[.bool false, .slice none 0 0, .int .i64 0] 31 (0, 0)) := hw3' ▸ heap_alloc_new w2 _
  replace h1 := h1.below hb3
  replace h2 := h2.below hb3
  have HPB := Lib.hid (rbitsp_num pr w3 hp1 (by omega))
  have hT3b : -2000000 ≤ T3 ∧ T3 ≤ 2000000 := by omega
  have hT4b : -2000000 ≤ T4 ∧ T4 ≤ 2000000 := by omega
  clear hX hY hb12 hb23 hpp hT1 hT2 he0 hEE hGG hE hG hy hM00
  go_enter Tryd.func19, Tryd.ntmps19
  go_wp2_with fail
  refine HPB.out.mono ?_
  rintro e w' ⟨rfl, rfl⟩
  go_upto_region 2 with fail
  refine wp_region_slots (by kernel_rfl) [14, 15, 16, 17, 18, 19, 20, 21, 22, 23, 24, 9] (fun w' => w'.heap[w.heap.size]? = some (.cells #[.bool p, .slice a n c, .int .i64 (E : Int)] 31 (0, 0)) ∧ w'.heap[w1.heap.size]? = some (.cells #[.bool q, .slice a2 n2 c2, .int .i64 (G : Int)] 31 (0, 0)) ∧ w'.heap[w2.heap.size]? = some (.cells #[.bool false, .slice none 0 0, .int .i64 0] 31 (0, 0)) ∧ RN w' (.slice a n c) N m ∧ RN w' (.slice a2 n2 c2) M k ∧ Below w3.heap.size w3 w') (Said [Is (.int .i64 (pr : Int)), Is (.int .i64 pp), Is (.pointer (some ⟨w1.heap.size, 1, none⟩)), Is (.slice a2 n2 c2), Is (.int .i64 (Bm : Int)), Is (.int .i64 T1), Is (.pointer (some ⟨w.heap.size, 1, none⟩)), Is (.slice a n c), Is (.int .i64 (An : Int)), Is (.int .i64 T2), Is (.int .i64 (n0 : Int)), Is (.int .i64 (n0 : Int))]) (by kernel_rfl) (by kernel_rfl) (by kernel_rfl) (by kernel_rfl) (Said.keep ?keep) ⟨slot_kept hc1 (bdn (Below.refl _ _) 1), slot_kept hc2 (bdn (Below.refl _ _) 1), slot_kept hc3 (bdn (Below.refl _ _) 1), h1.below (bdn (Below.refl _ _) 1), h2.below (bdn (Below.refl _ _) 1), bdn (Below.refl _ _) 1⟩ (l := [0, 1, 2, 3, 4, 5, 6, 7, 8, 9, 10, 11]) (by kernel_rfl) ?step ?fin
  case keep =>
    refine List.forall_mem_cons.2 ⟨Is.keeps _, ?_⟩
    refine List.forall_mem_cons.2 ⟨Is.keeps _, ?_⟩
    refine List.forall_mem_cons.2 ⟨Is.keeps _, ?_⟩
    refine List.forall_mem_cons.2 ⟨Is.keeps _, ?_⟩
    refine List.forall_mem_cons.2 ⟨Is.keeps _, ?_⟩
    refine List.forall_mem_cons.2 ⟨Is.keeps _, ?_⟩
    refine List.forall_mem_cons.2 ⟨Is.keeps _, ?_⟩
    refine List.forall_mem_cons.2 ⟨Is.keeps _, ?_⟩
    refine List.forall_mem_cons.2 ⟨Is.keeps _, ?_⟩
    refine List.forall_mem_cons.2 ⟨Is.keeps _, ?_⟩
    refine List.forall_mem_cons.2 ⟨Is.keeps _, ?_⟩
    refine List.forall_mem_cons.2 ⟨Is.keeps _, ?_⟩
    exact fun _ h => nomatch h
  case step =>
    refine List.forall_mem_cons.2 ⟨?_, ?_⟩
    · refine SlotStep.plain rfl rfl rfl ?_
      intro tm ws hsame hS hg K hK
      have e2 : tm[2]? = some (.int .i64 (pr : Int)) := hsame.2 2 rfl
      go_simp
      exact hK _ _ (Below.refl _ _) hS (rfl)
    refine List.forall_mem_cons.2 ⟨?_, ?_⟩
    · refine SlotStep.plain rfl rfl rfl ?_
      intro tm ws hsame hS hg K hK
      obtain ⟨v14, e14, rfl⟩ := hg 0 (by kernel_rfl) _ 14 rfl rfl
      go_simp
      exact hK _ _ (Below.refl _ _) hS (rfl)
    refine List.forall_mem_cons.2 ⟨?_, ?_⟩
    · refine SlotStep.plain rfl rfl rfl ?_
      intro tm ws hsame hS hg K hK
      have e5 : tm[5]? = some (.pointer (some ⟨w1.heap.size, 0, none⟩)) := hsame.2 5 rfl
      go_simp
      exact hK _ _ (Below.refl _ _) hS (rfl)
    refine List.forall_mem_cons.2 ⟨?_, ?_⟩
    · refine SlotStep.plain rfl rfl rfl ?_
      intro tm ws hsame hS hg K hK
      obtain ⟨v16, e16, rfl⟩ := hg 2 (by kernel_rfl) _ 16 rfl rfl
      obtain ⟨⟨k0, k1, k2⟩, -⟩ := slot3 hS.2.1
      go_simp
      exact hK _ _ (Below.refl _ _) hS (rfl)
    refine List.forall_mem_cons.2 ⟨?_, ?_⟩
    · refine SlotStep.plain rfl rfl rfl ?_
      intro tm ws hsame hS hg K hK
      obtain ⟨v17, e17, rfl⟩ := hg 3 (by kernel_rfl) _ 17 rfl rfl
      go_simp
      refine (rbits_num hS.2.2.2.2.1 (by omega)).mono ?_
      rw [hBm]
      rintro e wm ⟨rfl, rfl⟩
      exact hK _ _ (Below.refl _ _) hS rfl
    refine List.forall_mem_cons.2 ⟨?_, ?_⟩
    · refine SlotStep.plain rfl rfl rfl ?_
      intro tm ws hsame hS hg K hK
      obtain ⟨v15, e15, rfl⟩ := hg 1 (by kernel_rfl) _ 15 rfl rfl
      obtain ⟨v18, e18, rfl⟩ := hg 4 (by kernel_rfl) _ 18 rfl rfl
      go_simp
      exact hK _ _ (Below.refl _ _) hS (rfl)
    refine List.forall_mem_cons.2 ⟨?_, ?_⟩
    · refine SlotStep.plain rfl rfl rfl ?_
      intro tm ws hsame hS hg K hK
      have e4 : tm[4]? = some (.pointer (some ⟨w.heap.size, 0, none⟩)) := hsame.2 4 rfl
      go_simp
      exact hK _ _ (Below.refl _ _) hS (rfl)
    refine List.forall_mem_cons.2 ⟨?_, ?_⟩
    · refine SlotStep.plain rfl rfl rfl ?_
      intro tm ws hsame hS hg K hK
      obtain ⟨v20, e20, rfl⟩ := hg 6 (by kernel_rfl) _ 20 rfl rfl
      obtain ⟨⟨k0, k1, k2⟩, -⟩ := slot3 hS.1
      go_simp
      exact hK _ _ (Below.refl _ _) hS (rfl)
    refine List.forall_mem_cons.2 ⟨?_, ?_⟩
    · refine SlotStep.plain rfl rfl rfl ?_
      intro tm ws hsame hS hg K hK
      obtain ⟨v21, e21, rfl⟩ := hg 7 (by kernel_rfl) _ 21 rfl rfl
      go_simp
      refine (rbits_num hS.2.2.2.1 (by omega)).mono ?_
      rw [hAn]
      rintro e wm ⟨rfl, rfl⟩
      exact hK _ _ (Below.refl _ _) hS rfl
    refine List.forall_mem_cons.2 ⟨?_, ?_⟩
    · refine SlotStep.plain rfl rfl rfl ?_
      intro tm ws hsame hS hg K hK
      obtain ⟨v19, e19, rfl⟩ := hg 5 (by kernel_rfl) _ 19 rfl rfl
      obtain ⟨v22, e22, rfl⟩ := hg 8 (by kernel_rfl) _ 22 rfl rfl
      go_simp
      exact hK _ _ (Below.refl _ _) hS (rfl)
    refine List.forall_mem_cons.2 ⟨?_, ?_⟩
    · refine SlotStep.plain rfl rfl rfl ?_
      intro tm ws hsame hS hg K hK
      obtain ⟨v23, e23, rfl⟩ := hg 9 (by kernel_rfl) _ 23 rfl rfl
      go_simp
      exact hK _ _ (Below.refl _ _) hS (rfl)
    refine List.forall_mem_cons.2 ⟨?_, ?_⟩
    · refine SlotStep.plain rfl rfl rfl ?_
      intro tm ws hsame hS hg K hK
      obtain ⟨v24, e24, rfl⟩ := hg 10 (by kernel_rfl) _ 24 rfl rfl
      go_simp
      exact hK _ _ (Below.refl _ _) hS (rfl)
    exact fun _ h => nomatch h
  case fin =>
    intro tm w4 hsame hS hgot
    obtain ⟨u, hu, htm⟩ := hsame.form (by kernel_rfl)
    obtain ⟨v9, e9, rfl⟩ := hgot 11 _ 9 rfl rfl
    have h9 := hu _ _ e9
    obtain ⟨hd1, hd2, hd3, h1, h2, hb4⟩ := hS
    have hbw4 := hb3.trans (hb4.mono hb3.size)
    clear hgot hu hsame e9 hb4 hc1 hc2 hc3
    rw [htm]
    clear htm tm
    simp only [List.foldl_cons, List.foldl_nil, List.setIfInBounds_toArray, List.set_cons_zero, List.set_cons_succ, h9]
    clear h9
    go_upto_region 3 with fail
    refine wp_region_slots (by kernel_rfl) [26, 27, 28, 29, 30, 31, 32, 25, 33, 34, 10, 11] (fun w' => w'.heap[w.heap.size]? = some (.cells #[.bool p, .slice a n c, .int .i64 (E : Int)] 31 (0, 0)) ∧ w'.heap[w1.heap.size]? = some (.cells #[.bool q, .slice a2 n2 c2, .int .i64 (G : Int)] 31 (0, 0)) ∧ w'.heap[w2.heap.size]? = some (.cells #[.bool false, .slice none 0 0, .int .i64 0] 31 (0, 0)) ∧ RN w' (.slice a n c) N m ∧ RN w' (.slice a2 n2 c2) M k ∧ Below w4.heap.size w4 w') (Said [Is (.pointer (some ⟨w.heap.size, 1, none⟩)), Is (.slice a n c), Is (.int .i64 (n0 : Int)), IsRN (N * 2 ^ n0) 300, Is (.pointer (some ⟨w1.heap.size, 1, none⟩)), Is (.slice a2 n2 c2), IsDM (N * 2 ^ n0 / M) (N * 2 ^ n0 % M) 300 k, IsDM (N * 2 ^ n0 / M) (N * 2 ^ n0 % M) 300 k, IsRN (N * 2 ^ n0 / M) 300, IsRN (N * 2 ^ n0 % M) k, IsRN (N * 2 ^ n0 / M) 300, IsRN (N * 2 ^ n0 % M) k]) (by kernel_rfl) (by kernel_rfl) (by kernel_rfl) (by kernel_rfl) (Said.keep ?keep) ⟨slot_kept hd1 (bdn (Below.refl _ _) 1), slot_kept hd2 (bdn (Below.refl _ _) 1), slot_kept hd3 (bdn (Below.refl _ _) 1), h1.below (bdn (Below.refl _ _) 1), h2.below (bdn (Below.refl _ _) 1), bdn (Below.refl _ _) 1⟩ (l := [0, 1, 2, 3, 4, 5, 6, 7, 8, 9, 10, 11]) (by kernel_rfl) ?step ?fin
    case keep =>
      refine List.forall_mem_cons.2 ⟨Is.keeps _, ?_⟩
      refine List.forall_mem_cons.2 ⟨Is.keeps _, ?_⟩
      refine List.forall_mem_cons.2 ⟨Is.keeps _, ?_⟩
      refine List.forall_mem_cons.2 ⟨IsRN.keeps _ _, ?_⟩
      refine List.forall_mem_cons.2 ⟨Is.keeps _, ?_⟩
      refine List.forall_mem_cons.2 ⟨Is.keeps _, ?_⟩
      refine List.forall_mem_cons.2 ⟨IsDM.keeps _ _ _ _, ?_⟩
      refine List.forall_mem_cons.2 ⟨IsDM.keeps _ _ _ _, ?_⟩
      refine List.forall_mem_cons.2 ⟨IsRN.keeps _ _, ?_⟩
      refine List.forall_mem_cons.2 ⟨IsRN.keeps _ _, ?_⟩
      refine List.forall_mem_cons.2 ⟨IsRN.keeps _ _, ?_⟩
      refine List.forall_mem_cons.2 ⟨IsRN.keeps _ _, ?_⟩
      exact fun _ h => nomatch h
    case step =>
      refine List.forall_mem_cons.2 ⟨?_, ?_⟩
      · refine SlotStep.plain rfl rfl rfl ?_
        intro tm ws hsame hS hg K hK
        have e4 : tm[4]? = some (.pointer (some ⟨w.heap.size, 0, none⟩)) := hsame.2 4 rfl
        go_simp
        exact hK _ _ (Below.refl _ _) hS (rfl)
      refine List.forall_mem_cons.2 ⟨?_, ?_⟩
      · refine SlotStep.plain rfl rfl rfl ?_
        intro tm ws hsame hS hg K hK
        obtain ⟨v26, e26, rfl⟩ := hg 0 (by kernel_rfl) _ 26 rfl rfl
        obtain ⟨⟨k0, k1, k2⟩, -⟩ := slot3 hS.1
        go_simp
        exact hK _ _ (Below.refl _ _) hS (rfl)
      refine List.forall_mem_cons.2 ⟨?_, ?_⟩
      · refine SlotStep.plain rfl rfl rfl ?_
        intro tm ws hsame hS hg K hK
        have e9 : tm[9]? = some (.int .i64 (n0 : Int)) := hsame.2 9 rfl
        go_simp
        exact hK _ _ (Below.refl _ _) hS (rfl)
      refine List.forall_mem_cons.2 ⟨?_, ?_⟩
      · refine SlotStep.plain rfl rfl rfl ?_
        intro tm ws hsame hS hg K hK
        obtain ⟨v27, e27, rfl⟩ := hg 1 (by kernel_rfl) _ 27 rfl rfl
        obtain ⟨v28, e28, rfl⟩ := hg 2 (by kernel_rfl) _ 28 rfl rfl
        go_simp
        refine (rshl_num (p := 300) n0 hS.2.2.2.1 (by omega) (by omega) (by omega)).mono ?_
        rintro e wm ⟨aR, nR, cR, rfl, hR, hb⟩
        exact hK _ _ hb (⟨slot_kept hS.1 (hb), slot_kept hS.2.1 (hb), slot_kept hS.2.2.1 (hb), hS.2.2.2.1.below (hb), hS.2.2.2.2.1.below (hb), hS.2.2.2.2.2.trans (Below.mono (hb) hS.2.2.2.2.2.size)⟩) ⟨aR, nR, cR, rfl, hR⟩
      refine List.forall_mem_cons.2 ⟨?_, ?_⟩
      · refine SlotStep.plain rfl rfl rfl ?_
        intro tm ws hsame hS hg K hK
        have e5 : tm[5]? = some (.pointer (some ⟨w1.heap.size, 0, none⟩)) := hsame.2 5 rfl
        go_simp
        exact hK _ _ (Below.refl _ _) hS (rfl)
      refine List.forall_mem_cons.2 ⟨?_, ?_⟩
      · refine SlotStep.plain rfl rfl rfl ?_
        intro tm ws hsame hS hg K hK
        obtain ⟨v30, e30, rfl⟩ := hg 4 (by kernel_rfl) _ 30 rfl rfl
        obtain ⟨⟨k0, k1, k2⟩, -⟩ := slot3 hS.2.1
        go_simp
        exact hK _ _ (Below.refl _ _) hS (rfl)
      refine List.forall_mem_cons.2 ⟨?_, ?_⟩
      · refine SlotStep.plain rfl rfl rfl ?_
        intro tm ws hsame hS hg K hK
        obtain ⟨v29, e29, ⟨a29, n29, c29, rfl, g29⟩⟩ := hg 3 (by kernel_rfl) _ 29 rfl rfl
        obtain ⟨v31, e31, rfl⟩ := hg 5 (by kernel_rfl) _ 31 rfl rfl
        go_simp
        refine (rdm_num g29 hS.2.2.2.2.1 hM0 (by omega)).mono ?_
        rintro e wm ⟨aR, nR, cR, aT, nT, cT, rfl, hR, hT, hb⟩
        exact hK _ _ hb (⟨slot_kept hS.1 (hb), slot_kept hS.2.1 (hb), slot_kept hS.2.2.1 (hb), hS.2.2.2.1.below (hb), hS.2.2.2.2.1.below (hb), hS.2.2.2.2.2.trans (Below.mono (hb) hS.2.2.2.2.2.size)⟩) ⟨aR, nR, cR, aT, nT, cT, rfl, hR, hT⟩
      refine List.forall_mem_cons.2 ⟨?_, ?_⟩
      · refine SlotStep.plain rfl rfl rfl ?_
        intro tm ws hsame hS hg K hK
        obtain ⟨v32, e32, ⟨aq32, nq32, cq32, ar32, nr32, cr32, rfl, gq32, gr32⟩⟩ := hg 6 (by kernel_rfl) _ 32 rfl rfl
        go_simp
        exact hK _ _ (Below.refl _ _) hS (⟨aq32, nq32, cq32, ar32, nr32, cr32, rfl, gq32, gr32⟩)
      refine List.forall_mem_cons.2 ⟨?_, ?_⟩
      · refine SlotStep.plain rfl rfl rfl ?_
        intro tm ws hsame hS hg K hK
        obtain ⟨v25, e25, ⟨aq25, nq25, cq25, ar25, nr25, cr25, rfl, gq25, gr25⟩⟩ := hg 7 (by kernel_rfl) _ 25 rfl rfl
        go_simp
        exact hK _ _ (Below.refl _ _) hS (⟨aq25, nq25, cq25, rfl, gq25⟩)
      refine List.forall_mem_cons.2 ⟨?_, ?_⟩
      · refine SlotStep.plain rfl rfl rfl ?_
        intro tm ws hsame hS hg K hK
        obtain ⟨v25, e25, ⟨aq25, nq25, cq25, ar25, nr25, cr25, rfl, gq25, gr25⟩⟩ := hg 7 (by kernel_rfl) _ 25 rfl rfl
        go_simp
        exact hK _ _ (Below.refl _ _) hS (⟨ar25, nr25, cr25, rfl, gr25⟩)
      refine List.forall_mem_cons.2 ⟨?_, ?_⟩
      · refine SlotStep.plain rfl rfl rfl ?_
        intro tm ws hsame hS hg K hK
        obtain ⟨v33, e33, ⟨a33, n33, c33, rfl, g33⟩⟩ := hg 8 (by kernel_rfl) _ 33 rfl rfl
        go_simp
        exact hK _ _ (Below.refl _ _) hS (⟨a33, n33, c33, rfl, g33⟩)
      refine List.forall_mem_cons.2 ⟨?_, ?_⟩
      · refine SlotStep.plain rfl rfl rfl ?_
        intro tm ws hsame hS hg K hK
        obtain ⟨v34, e34, ⟨a34, n34, c34, rfl, g34⟩⟩ := hg 9 (by kernel_rfl) _ 34 rfl rfl
        go_simp
        exact hK _ _ (Below.refl _ _) hS (⟨a34, n34, c34, rfl, g34⟩)
      exact fun _ h => nomatch h
    case fin =>
      intro tm w5 hsame hS hgot
      obtain ⟨u, hu, htm⟩ := hsame.form (by kernel_rfl)
      obtain ⟨v10, e10, aq, nq, cq, rfl, hq⟩ := hgot 10 _ 10 rfl rfl
      obtain ⟨v11, e11, ar, nr, cr, rfl, hr⟩ := hgot 11 _ 11 rfl rfl
      have h10 := hu _ _ e10
      have h11 := hu _ _ e11
      obtain ⟨hd1, hd2, hd3, -, -, hb5⟩ := hS
      have hbw5 := hbw4.trans (hb5.mono hbw4.size)
      clear hgot hu hsame e10 e11 hb5 h1 h2
      rw [htm]
      clear htm tm
      simp only [List.foldl_cons, List.foldl_nil, List.setIfInBounds_toArray, List.set_cons_zero, List.set_cons_succ, h10, h11]
      clear h10 h11
      obtain ⟨rs, hrs⟩ : ∃ rs, decide (0 < nr) = rs := ⟨_, rfl⟩
      have hrs2 : rs = decide (¬ N * 2 ^ n0 % M = 0) := by
        rw [← hrs]
        by_cases h0 : nr = 0
        · rw [decide_eq_false (by omega), decide_eq_false (by rw [Classical.not_not]; exact hr.len.1.1 h0)]
        · rw [decide_eq_true (by omega), decide_eq_true (show ¬ N * 2 ^ n0 % M = 0 from fun e => h0 (hr.len.1.2 e))]
      obtain ⟨QQ, hQQ⟩ : ∃ QQ, N * 2 ^ n0 / M = QQ := ⟨_, rfl⟩
      have HQ := Lib.hid (quo_bounds hz1 hz2 hN0 hMp hQQ hrs2 hexp dir pr)
      rw [hQQ] at hq
      clear hr hrs2 hQQ hz1 hz2
      obtain ⟨⟨kx0, kx1, kx2⟩, -⟩ := slot3 hd1
      obtain ⟨⟨ky0, ky1, ky2⟩, -⟩ := slot3 hd2
      have HCUT := Lib.hid (rcut_any (b := bb) Lq (p != q) rs T4 dir pr hq hT4L (by decide) (by decide) (by omega) (by omega) (by omega) hp1 (by omega))
      have HD3 := Lib.hid hd3
      have HBW5 := Lib.hid hbw5
      have HB2 := Lib.hid hb2
      clear hq hd1 hd2 hd3 hbw5 hb1 hb2 hb3 hw1 hw2 hw3 hw4 hw5 hexp hbw4 hBmb hAnb hn0 hn0b hN0 hMp hM0 hLq hbb hT4L he0b hLqb hw1' hw2' hw3' hLb hb9 hd9
      go_wp2_with fail
      rw [show (!(p == q)) = (p != q) from rfl]
      refine HCUT.out.mono ?_
      rintro e w8 ⟨pR, aR, nR, cR, ER, rfl, hr, hb8⟩
      have hblk := slot_kept HD3.out hb8
      obtain ⟨⟨q0, q1, q2⟩, f0, f1, f2⟩ := slot3 hblk
      have hend := slot3_set (u := .bool pR) (v := .slice aR nR cR) (s := .int .i64 (ER : Int)) hblk
      have hon := slot3_only (w := w8) (g := w2.heap.size) (.bool pR) (.slice aR nR cR) (.int .i64 (ER : Int))
      have hr' := hr.var hblk hon
      have hbw := HBW5.out.trans (hb8.mono HBW5.out.size)
      have HR : Hid (RetQuo Lq w Zx Zy dir 301 bb (.returned (.agg #[.bool pR, .slice aR nR cR, .int .i64 (ER : Int)])) (((w8.setCell ⟨w2.heap.size, 0, none⟩ (.bool pR)).setCell ⟨w2.heap.size, 1, none⟩ (.slice aR nR cR)).setCell ⟨w2.heap.size, 2, none⟩ (.int .i64 (ER : Int)))) :=
        Lib.hid ⟨_, ⟨pR, aR, nR, cR, ER, rfl, hr', hbw.trans (hon.below HB2.out.size hbw.size)⟩, HQ.out.1, HQ.out.2⟩
      clear hr hr' hb8 hbw hon kx0 kx1 kx2 ky0 ky1 ky2
      go_wp2_with fail
      exact bodyPost_ret (results_cell_row rfl _ _ w2.heap.size 31 _ (0, 0) _ rfl hend Tryd.underlying31 rfl (by kernel_rfl)) rfl HR.out
end Go.Proofs.YtjmipbljoblnnaaDoor

namespace Go.Proofs.YtjmipbljoblnnaaDoor
open Go.RowKit

theorem neg_lt {b : Nat} (hb : b < 18446744073709551616) : Op.negFloat .f64 b < 18446744073709551616 := by
  have e : Op.negFloat .f64 b = b ^^^ 2 ^ 63 := rfl
  rw [e]
  exact Nat.xor_lt_two_pow (n := 64) hb (by decide)
theorem neg_val {b : Nat} (hb : b < 18446744073709551616) : Op.negFloat .f64 b = if b < 9223372036854775808 then 9223372036854775808 + b else b - 9223372036854775808 := by
  obtain ⟨h1, h2⟩ := neg_word hb
  have h3 := neg_lt hb
  generalize Op.negFloat .f64 b = n at h1 h2 h3
  unfold rg at h1
  have e1 : fneg b = decide (9223372036854775808 ≤ b) := by
    unfold fneg
    by_cases h : 9223372036854775808 ≤ b
    · rw [decide_eq_true h, show b / 9223372036854775808 % 2 = 1 by omega]; rfl
    · rw [decide_eq_false h, show b / 9223372036854775808 % 2 = 0 by omega]; rfl
  have e2 : fneg n = decide (9223372036854775808 ≤ n) := by
    unfold fneg
    by_cases h : 9223372036854775808 ≤ n
    · rw [decide_eq_true h, show n / 9223372036854775808 % 2 = 1 by omega]; rfl
    · rw [decide_eq_false h, show n / 9223372036854775808 % 2 = 0 by omega]; rfl
  rw [e1, e2] at h2
  by_cases h : b < 9223372036854775808
  · rw [if_pos h]
    rw [decide_eq_false (show ¬ 9223372036854775808 ≤ b by omega)] at h2
    have : 9223372036854775808 ≤ n := by simpa using h2
    omega
  · rw [if_neg h]
    rw [decide_eq_true (show 9223372036854775808 ≤ b by omega)] at h2
    have : ¬ 9223372036854775808 ≤ n := by simpa using h2
    omega
theorem step_neg {b : Nat} (hb : b < 18446744073709551616) (h : rg b ≤ INF) : Op.negFloat .f64 (stepW (Op.negFloat .f64 b) false) = stepW b true := by
  have hI : INF = 9218868437227405312 := rfl
  have hn := neg_val hb
  obtain ⟨hr, -⟩ := neg_word hb
  by_cases h0 : rg b = 0
  · rw [stepW_zero (by rw [hr]; exact h0), stepW_zero h0]
    decide
  · rcases word_cases hb with ⟨e1, -⟩ | ⟨e1, -⟩
    · have hlt := rg_lt b
      rw [e1] at hn hlt
      rw [if_pos (rg_lt b)] at hn
      rw [e1, hn, stepW_neg h0 (rg_lt b), stepW_pos h0 (rg_lt b), if_neg (by decide), if_pos rfl, neg_val (by omega), if_neg (by omega)]
      omega
    · have hlt := rg_lt b
      rw [e1] at hn
      rw [if_neg (by omega)] at hn
      rw [show 9223372036854775808 + rg b - 9223372036854775808 = rg b by omega] at hn
      rw [e1, hn, stepW_neg h0 (rg_lt b), stepW_pos h0 (rg_lt b), if_neg (by decide), if_pos rfl]
      by_cases hi : rg b = INF
      · rw [if_pos hi, if_pos hi, neg_val (by omega), if_pos (by omega)]
      · rw [if_neg hi, if_neg hi, neg_val (by omega), if_pos (by omega)]
        omega
theorem feq_nan {b : Nat} (h : INF < rg b) : (FloatKind.f64.format.order b b == some Ordering.eq) = false := by
  show (Ieee.double.order b b == some Ordering.eq) = false
  rw [order_nan_left h]; rfl
theorem fne_nan {b : Nat} (h : INF < rg b) : (FloatKind.f64.format.order b b != some Ordering.eq) = true := by
  show (!(FloatKind.f64.format.order b b == some Ordering.eq)) = true
  rw [feq_nan h]; rfl
theorem fne_not {b : Nat} (h : rg b ≤ INF) : (FloatKind.f64.format.order b b != some Ordering.eq) = false := by
  show (!(FloatKind.f64.format.order b b == some Ordering.eq)) = false
  rw [feq_num h h, decide_eq_true rfl]; rfl
theorem feq_zero {b : Nat} (h : rg b ≤ INF) : (FloatKind.f64.format.order b 0 == some Ordering.eq) = decide (rg b = 0) := by
  have f0 : fv 0 = 0 := by decide
  rw [feq_num h (by decide), f0]
  by_cases e : rg b = 0
  · rw [decide_eq_true e, fv_def, e]
    exact decide_eq_true (by split <;> rfl)
  · rw [decide_eq_false e]
    refine decide_eq_false fun h0 => e (un_eq_zero ?_)
    rw [fv_def] at h0
    split at h0 <;> omega
set_option maxRecDepth 100000 in
theorem rfin_num (b : Nat) (w : World) (hb : b < 18446744073709551616) : Calls Tryd.prog 22 #[.float .f64 b] w fun e w' => RetB w (.bool (decide (rg b < INF))) e w' := by
  have h1 : (b : Int) / 4503599627370496 % 2048 = ((b / 4503599627370496 % 2048 : Nat) : Int) := by omega
  have hf : ((((b / 4503599627370496 % 2048 : Nat) : Int)) != 2047) = decide (rg b < INF) := by
    have h := field_inf (b := b)
    by_cases e : rg b < INF
    · rw [decide_eq_true e]
      simp only [bne_iff_ne, ne_eq]
      omega
    · rw [decide_eq_false e]
      simp only [bne_eq_false_iff_eq]
      omega
  obtain ⟨F, hF⟩ : ∃ F, b / 4503599627370496 % 2048 = F := ⟨_, rfl⟩
  rw [hF] at h1 hf
  obtain ⟨r, hr⟩ : ∃ r, decide (rg b < INF) = r := ⟨_, rfl⟩
  rw [hr] at hf ⊢
  clear hF hr
  go_enter Tryd.func22, Tryd.ntmps22
  go_wp2_with (simp only [bits_run])
  go_ret
  exact ⟨rfl, rfl⟩
set_option maxRecDepth 100000 in
theorem isnan_yes (b : Nat) (w : World) (h : INF < rg b) : Calls Tryd.prog 55 #[.float .f64 b] w fun e w' => RetB w (.bool true) e w' := by
  have h1 := fne_nan h
  clear h
  go_enter Tryd.func55, Tryd.ntmps55
  go_wp2_with fail
  go_ret
  exact ⟨rfl, rfl⟩
set_option maxRecDepth 100000 in
theorem step_nan (b : Nat) (dir : Int) (w : World) (h : INF < rg b) : Calls Tryd.prog 50 #[.float .f64 b, .int .i64 dir] w fun e w' => RetB w (.float .f64 b) e w' := by
  have HN := Lib.hid (isnan_yes b w h)
  clear h
  go_enter Tryd.func50, Tryd.ntmps50
  go_wp2_with fail
  refine HN.out.mono ?_
  rintro e w' ⟨rfl, rfl⟩
  go_wp2_with fail
  go_ret
  exact ⟨rfl, rfl⟩
end Go.Proofs.YtjmipbljoblnnaaDoor

namespace Go.Proofs.YtjmipbljoblnnaaDoor
open Go.RowKit

def sgn (neg : Bool) (r : Nat) : Nat := if neg then 9223372036854775808 + r else r
theorem neg_sgn {neg : Bool} {r : Nat} (h : r < 9223372036854775808) : (if neg then Op.negFloat .f64 r else r) = sgn neg r := by
  unfold sgn
  cases neg
  · rfl
  · rw [if_pos rfl, if_pos rfl, neg_val (by omega), if_pos h]
theorem sgW_sgn {neg : Bool} {R : Nat} (h : R ≠ 0) : sgW neg R = sgn neg R := by
  cases neg
  · rfl
  · exact if_neg h
/-- A word's step away from nought. -/
theorem step_away {neg : Bool} {R : Nat} (h : R < INF) : stepW (sgW neg R) neg = sgn neg (R + 1) := by
  have hI : INF = 9218868437227405312 := rfl
  by_cases h0 : R = 0
  · subst h0; cases neg <;> decide
  · cases neg
    · show stepW R false = R + 1
      rw [stepW_pos h0 (by omega), if_neg (by decide), if_neg (by omega)]
    · show stepW (if R = 0 then 0 else 9223372036854775808 + R) true = 9223372036854775808 + (R + 1)
      rw [if_neg h0, stepW_neg h0 (by omega), if_pos rfl, if_neg (by omega)]
      omega
theorem tz_tiny {N E : Int} (hN : 0 < N) (hT : (nb N : Int) + E ≤ -1074) : TZ 0 false N E := by
  refine ⟨by decide, fun h => (by cases h), fun _ K hK hEK => ?_⟩
  have e0 : (un (0 + 1) : Int) = 1 := by decide
  rw [un_zero, e0, Int.one_mul]
  have hp := pow2_pos (E + K).toNat
  have h0 : 0 < N * 2 ^ (E + K).toNat := Int.mul_pos hN hp
  refine ⟨by simpa using h0, fun _ => ?_⟩
  obtain ⟨-, h2, -⟩ := nb_spec hN
  have h3 : N * 2 ^ (E + K).toNat < 2 ^ nb N * 2 ^ (E + K).toNat := Int.mul_lt_mul_of_pos_right h2 hp
  rw [← Int.pow_add] at h3
  have h4 : (2 : Int) ^ (nb N + (E + K).toNat) ≤ 2 ^ (K - 1074) := pow_le_pow (by decide) (by omega)
  omega
theorem flo_small {neg : Bool} {N E : Int} {R : Nat} {ex down : Bool} (hN : 0 < N) (hT : (nb N : Int) + E ≤ -1074) (h : TZ R ex N E) : floW neg R ex down = if (neg == down) = true then sgn neg 1 else 0 := by
  obtain ⟨rfl, rfl⟩ := h.unique (tz_tiny hN hT)
  cases neg <;> cases down <;> decide
theorem tz_exact {N E : Int} {r L : Nat} (hr : r < INF) (hL : (L : Int) = E + 1074) (hu : (un r : Int) = N * 2 ^ L) : TZ r true N E := by
  refine ⟨hr, fun _ K hK hEK => ?_, fun h => by cases h⟩
  rw [hu, Int.mul_assoc, ← Int.pow_add]
  exact congrArg (fun n : Nat => N * (2 : Int) ^ n) (by omega)
theorem un_eq {r s : Nat} (h : (un r : Int) = (un s : Int)) : r = s := un_inj (by omega)
/-- The number at p bits: below, and just. -/
theorem cut_tz {N E : Int} {p j Lj : Nat} (hN : 0 < N) (hp : (p : Int) = min 53 ((nb N : Int) + E + 1074)) (hp1 : 1 ≤ p) (hj : nb N = p + j) (hj0 : 0 < j) (hL : (Lj : Int) = E + j + 1074) (hT : (nb N : Int) + E ≤ 1024) :
    ∃ man : Nat, (man : Int) = N / 2 ^ j ∧ man < 9007199254740992 ∧ (4503599627370496 ≤ man ∨ Lj = 0) ∧ 0 < man ∧ Lj ≤ 2045 ∧ ∃ ex, TZ (Lj * 4503599627370496 + man) ex N E ∧ (ex = true ↔ N / 2 ^ j * 2 ^ j = N) := by
  obtain ⟨h1, h2, -⟩ := nb_spec hN
  have hpj := pow2_pos j
  have h0 : 0 ≤ N / 2 ^ j := Int.ediv_nonneg (by omega) (by omega)
  obtain ⟨man, hm⟩ := Int.eq_ofNat_of_zero_le h0
  have hlo : (2 : Int) ^ (p - 1) ≤ N / 2 ^ j := by
    rw [Int.le_ediv_iff_mul_le hpj, ← Int.pow_add, show p - 1 + j = nb N - 1 by omega]
    exact h1
  have hhi : N / 2 ^ j < 2 ^ p := by
    rw [Int.ediv_lt_iff_lt_mul hpj, ← Int.pow_add, ← hj]
    exact h2
  have hp53 : p ≤ 53 := by omega
  have h53 : (2 : Int) ^ p ≤ 2 ^ 53 := pow_le_pow (by decide) hp53
  have e53 : (2 : Int) ^ 53 = 9007199254740992 := by decide
  have hpp := pow2_pos (p - 1)
  have hm2 : 4503599627370496 ≤ man ∨ Lj = 0 := by
    by_cases h : p = 53
    · left
      rw [h] at hlo
      have e52 : (2 : Int) ^ (53 - 1) = 4503599627370496 := by decide
      omega
    · right; omega
  have hL2 : Lj ≤ 2045 := by omega
  have hml : man < 9007199254740992 := by omega
  obtain ⟨t, ht⟩ := low_exists N (by omega)
  have hTZ := tz_cut (E := E) (t := t) hN hm.symm (by omega : (Lj : Int) = j + E + 1074) hml hm2 hL2 (Or.inr ⟨by omega, ht⟩)
  refine ⟨man, hm.symm, hml, hm2, by omega, hL2, _, hTZ, ?_⟩
  have hu : (un (Lj * 4503599627370496 + man) : Int) = (man : Int) * 2 ^ Lj := by
    rw [un_pack (by omega) hm2, cast_pow2]
  obtain ⟨K, hK⟩ : ∃ K : Nat, K = 1074 + E.natAbs := ⟨_, rfl⟩
  have hpw : (2 : Int) ^ Lj * 2 ^ (K - 1074) = 2 ^ j * 2 ^ (E + K).toNat := by
    rw [← Int.pow_add, ← Int.pow_add]
    exact congrArg (fun n : Nat => (2 : Int) ^ n) (by omega)
  have hq := pow2_pos (E + K).toNat
  rw [hm]
  constructor
  · intro h
    have h1 := hTZ.eq h K (by omega) (by omega)
    rw [hu, Int.mul_assoc, hpw, ← Int.mul_assoc] at h1
    exact Int.eq_of_mul_eq_mul_right (by omega) h1
  · intro h
    by_cases hx : decide (j ≤ t) = true
    · exact hx
    · have h1 := (hTZ.gt (by simpa using hx) K (by omega) (by omega)).1
      rw [hu, Int.mul_assoc, hpw, ← Int.mul_assoc] at h1
      change (man : Int) * 2 ^ j = N at h
      rw [h] at h1
      omega
theorem un_inf (L : Nat) (hL : L = 2046) : (un INF : Int) = 4503599627370496 * 2 ^ L := by
  have e : INF = L * 4503599627370496 + 4503599627370496 := by subst hL; decide
  rw [e, un_pack (by decide) (Or.inl (Nat.le_refl _)), cast_pow2]
  rfl
theorem flo_mid {neg down : Bool} {N E V : Int} {R p Lj r : Nat} {ex : Bool} (hN : 0 < N) (hp : (p : Int) = min 53 ((nb N : Int) + E + 1074)) (hp1 : 1 ≤ p) (hT : (nb N : Int) + E ≤ 1024) (h : TZ R ex N E) (hV : cutV N p (neg == down) = V) (hL : (Lj : Int) = E + ((nb N - p : Nat) : Int) + 1074) (hr : r ≤ INF) (hu : (un r : Int) = V * 2 ^ Lj) :
    floW neg R ex down = sgn neg r ∧ r ≠ 0 := by
  have hpL := pow2_pos Lj
  unfold cutV at hV
  by_cases hs : nb N ≤ p
  · rw [if_pos hs] at hV
    subst hV
    have e0 : nb N - p = 0 := by omega
    rw [e0] at hL
    have hrI : r < INF := by
      rcases Nat.lt_or_eq_of_le hr with h1 | h1
      · exact h1
      · exfalso
        obtain ⟨M, hM⟩ : ∃ M : Nat, M = 2046 := ⟨_, rfl⟩
        rw [h1, un_inf M hM] at hu
        obtain ⟨-, h2, -⟩ := nb_spec hN
        have h3 : N * 2 ^ Lj < 2 ^ nb N * 2 ^ Lj := Int.mul_lt_mul_of_pos_right h2 hpL
        rw [← Int.pow_add, ← hu] at h3
        have h4 : (2 : Int) ^ (nb N + Lj) ≤ 2 ^ (52 + M) := pow_le_pow (by decide) (by omega)
        rw [Int.pow_add 2 52 M, show (2 : Int) ^ 52 = 4503599627370496 by decide] at h4
        omega
    have hTZ := tz_exact (E := E) hrI (by omega) hu
    obtain ⟨rfl, rfl⟩ := h.unique hTZ
    have hr0 : R ≠ 0 := by
      rintro rfl
      have := Int.mul_pos hN hpL
      rw [← hu, un_zero] at this
      exact absurd this (by decide)
    refine ⟨?_, hr0⟩
    unfold floW
    rw [Bool.true_or, if_pos rfl]
    exact sgW_sgn hr0
  · rw [if_neg hs] at hV
    obtain ⟨j, hj⟩ : ∃ j, nb N - p = j := ⟨_, rfl⟩
    rw [hj] at hV hL
    obtain ⟨man, hm, hml, hm2, hm0, hL2, ex', hTZ, hex⟩ := cut_tz hN hp hp1 (by omega : nb N = p + j) (by omega) hL hT
    obtain ⟨rfl, rfl⟩ := h.unique hTZ
    have hu0 : (un (Lj * 4503599627370496 + man) : Int) = (man : Int) * 2 ^ Lj := by
      rw [un_pack (by omega) hm2, cast_pow2]
    have hu1 : (un (Lj * 4503599627370496 + man + 1) : Int) = ((man : Int) + 1) * 2 ^ Lj := by
      rw [Nat.add_assoc, un_pack (by omega) (by omega), cast_pow2]; rfl
    obtain ⟨R, hR⟩ : ∃ R, Lj * 4503599627370496 + man = R := ⟨_, rfl⟩
    rw [hR] at hu0 hu1 hTZ ⊢
    rw [← hm] at hV hex
    by_cases hx : ex = true
    · rw [decide_eq_false (show ¬ ¬ (man : Int) * 2 ^ j = N from fun hn => hn (hex.1 hx)), Bool.false_and, if_neg (by decide), Int.add_zero] at hV
      rw [← hV] at hu
      obtain rfl := un_eq (hu.trans hu0.symm)
      have hr0 : r ≠ 0 := by omega
      refine ⟨?_, hr0⟩
      unfold floW
      rw [hx, Bool.true_or, if_pos rfl]
      exact sgW_sgn hr0
    · rw [decide_eq_true (show ¬ (man : Int) * 2 ^ j = N from fun he => hx (hex.2 he)), Bool.true_and] at hV
      have hx' : ex = false := by simpa using hx
      by_cases ha : neg = down
      · subst ha
        rw [beq_self_eq_true, if_pos rfl] at hV
        rw [← hV] at hu
        obtain rfl := un_eq (hu.trans hu1.symm)
        refine ⟨?_, by omega⟩
        unfold floW
        have e1 : (neg != neg) = false := by cases neg <;> rfl
        rw [hx', e1, Bool.false_or, if_neg (by decide)]
        exact step_away hTZ.lt
      · have e1 : (neg == down) = false := by cases neg <;> cases down <;> first | rfl | exact absurd rfl ha
        have e2 : (neg != down) = true := by cases neg <;> cases down <;> first | rfl | exact absurd rfl ha
        rw [e1, if_neg (by decide), Int.add_zero] at hV
        rw [← hV] at hu
        obtain rfl := un_eq (hu.trans hu0.symm)
        have hr0 : r ≠ 0 := by omega
        refine ⟨?_, hr0⟩
        unfold floW
        rw [e2, Bool.or_true, if_pos rfl]
        exact sgW_sgn hr0
theorem cutV_pos {N : Int} {p : Nat} {aw : Bool} (hN : 0 < N) (hp1 : 1 ≤ p) : 0 < cutV N p aw ∧ (nb N ≤ p → cutV N p aw = N) ∧ (p < nb N → 2 ^ (p - 1) ≤ cutV N p aw ∧ cutV N p aw ≤ 2 ^ p ∧ (aw = false → cutV N p aw < 2 ^ p)) := by
  unfold cutV
  by_cases hs : nb N ≤ p
  · rw [if_pos hs]
    exact ⟨hN, fun _ => rfl, fun h => by omega⟩
  · rw [if_neg hs]
    obtain ⟨h1, h2, -⟩ := nb_spec hN
    obtain ⟨j, hj⟩ : ∃ j, nb N - p = j := ⟨_, rfl⟩
    rw [hj]
    have hpj := pow2_pos j
    have hlo : (2 : Int) ^ (p - 1) ≤ N / 2 ^ j := by
      rw [Int.le_ediv_iff_mul_le hpj, ← Int.pow_add, show p - 1 + j = nb N - 1 by omega]
      exact h1
    have hhi : N / 2 ^ j < 2 ^ p := by
      rw [Int.ediv_lt_iff_lt_mul hpj, ← Int.pow_add, show p + j = nb N by omega]
      exact h2
    have hpp := pow2_pos (p - 1)
    refine ⟨by split <;> omega, fun h => absurd h hs, fun _ => ⟨by split <;> omega, by split <;> omega, fun h => ?_⟩⟩
    rw [h, Bool.and_false, if_neg (by decide)]
    omega
theorem flo_big {neg down : Bool} {N E V : Int} {R p : Nat} {ex : Bool} (hN : 0 < N) (hp : (p : Int) = min 53 ((nb N : Int) + E + 1074)) (hp1 : 1 ≤ p) (h : TZ R ex N E) (hV : cutV N p (neg == down) = V) (hb : 1024 < (nb V : Int) + ((nb N - p : Nat) : Int) + E) :
    floW neg R ex down = if (neg == down) = true then sgn neg INF else sgn neg 9218868437227405311 := by
  obtain ⟨v0, v1, v2⟩ := cutV_pos (N := N) (p := p) (aw := neg == down) hN hp1
  rw [hV] at v0 v1 v2
  by_cases hT : 1024 < (nb N : Int) + E
  · obtain ⟨rfl, rfl⟩ := h.unique (tz_big hN (by omega))
    cases neg <;> cases down <;> decide
  · have hlt : p < nb N := by
      rcases Nat.lt_or_ge p (nb N) with h1 | h1
      · exact h1
      · rw [v1 h1] at hb; omega
    obtain ⟨q1, q2, q3⟩ := v2 hlt
    obtain ⟨n1, n2, -⟩ := nb_spec v0
    have hnV : nb V ≤ p + 1 := by
      have : (2 : Int) ^ (nb V - 1) < 2 ^ (p + 1) := by
        have := pow2_pos p
        rw [Int.pow_succ]; omega
      have := two_pow_lt_of this
      omega
    have hVp : V = 2 ^ p := by
      have : (2 : Int) ^ p ≤ 2 ^ (nb V - 1) := pow_le_pow (by decide) (by omega)
      omega
    have haw : (neg == down) = true := by
      cases hh : (neg == down)
      · have := q3 hh; omega
      · rfl
    have hp53 : p = 53 := by omega
    obtain ⟨Lj, hL⟩ := Int.eq_ofNat_of_zero_le (show 0 ≤ E + ((nb N - p : Nat) : Int) + 1074 by omega)
    rw [haw, if_pos rfl]
    refine (flo_mid (r := INF) hN hp hp1 (by omega) h hV hL.symm (Nat.le_refl _) ?_).1
    obtain ⟨M, hM⟩ : ∃ M : Nat, M = 2046 := ⟨_, rfl⟩
    rw [un_inf M hM, hVp, ← Int.pow_add, show (4503599627370496 : Int) = 2 ^ 52 by decide, ← Int.pow_add]
    exact congrArg (fun n : Nat => (2 : Int) ^ n) (by omega)
end Go.Proofs.YtjmipbljoblnnaaDoor

namespace Go.Proofs.YtjmipbljoblnnaaDoor
open Go.RowKit

theorem Num.var {w w' : World} {a : Option Addr} {n c : Nat} {N : Int} {m g lo hi : Nat} (h : Num w (.slice a n c) N m) {p : Bool} {a1 : Option Addr} {n1 c1 : Nat} {t : TypeId} (hv : w.heap[g]? = some (.cells #[.bool p, .slice a1 n1 c1] t (0, 0))) (ho : Only g lo hi w w') : Num w' (.slice a n c) N m := by
  obtain ⟨l, ⟨a', c', he, h1, h2, h3, h4⟩, h5, h6⟩ := h
  simp only [Value.slice.injEq] at he
  obtain ⟨rfl, rfl, rfl⟩ := he
  refine ⟨l, ⟨a, c, rfl, h1, h2, ?_, h4⟩, h5, h6⟩
  rcases h3 with h3 | ⟨b, o, rfl, hat⟩
  · exact Or.inl h3
  · by_cases hl : l = []
    · exact Or.inl hl
    · refine Or.inr ⟨b, o, rfl, ho.at' hat ?_⟩
      rintro rfl
      have hat0 := hat 0 (List.length_pos_iff.2 hl)
      rw [cell_of_row w b _ _ t _ hv] at hat0
      match o, hat0 with
      | 0, hat0 => simp at hat0
      | 1, hat0 => simp at hat0
      | o + 2, hat0 => simp at hat0
def dtop (N E : Int) : Int := if N = 0 then 0 else (nb N : Int) + E
theorem sign_zero_iff {p : Bool} {N : Int} (h : 0 ≤ N) : (cmpI (sg p N) 0 == 0) = decide (N = 0) := by
  by_cases e : N = 0
  · rw [decide_eq_true e, e, cmpI_eq (by cases p <;> rfl)]; rfl
  · rw [decide_eq_false e]
    cases p
    · rw [sg_false, cmpI_gt (by omega)]; rfl
    · rw [sg_true, cmpI_lt (by omega)]; rfl
/-- Two integers and a number have been returned. -/
def IsI (w : World) (v : Value) (Z : Int) (m : Nat) : Prop := ∃ p a n c N, v = .agg #[.bool p, .slice a n c] ∧ Num w (.slice a n c) N m ∧ Z = sg p N
def RetAl (w : World) (X Y e0 : Int) (m : Nat) (e : Ending) (w' : World) : Prop := ∃ p a n c N q b k d M, e = .returned (.tuple #[.agg #[.bool p, .slice a n c], .agg #[.bool q, .slice b k d], .int .i64 e0]) ∧ Num w' (.slice a n c) N m ∧ X = sg p N ∧ Num w' (.slice b k d) M m ∧ Y = sg q M ∧ Below w.heap.size w w'
theorem results_cells2 {fn : Func} {p q u : Tmp} {ty : TypeId} (h : fn.results = #[.cell p ty, .cell q ty, .tmp u]) (tmps : Array Value) (P : Program) (w : World) (g g' : Nat) (t t' : TypeId) (cs cs' : Array Value) (fr fr' : Nat × Nat) (fs : Array Field)
    (hp : tmps.getD p undef = .pointer (some ⟨g, 0, none⟩)) (hq : tmps.getD q undef = .pointer (some ⟨g', 0, none⟩)) (hg : w.heap[g]? = some (.cells cs t fr)) (hg' : w.heap[g']? = some (.cells cs' t' fr'))
    (hu : P.underlying ty = some (.struct fs)) (hi : (P.info? ty).map (·.size) = some cs.size) (hi' : (P.info? ty).map (·.size) = some cs'.size) :
    (results fn tmps).run P w = .ok (.tuple #[.agg cs, .agg cs', tmps.getD u undef]) w := by
  have hp' : tmps[p]?.getD undef = .pointer (some ⟨g, 0, none⟩) := by simpa using hp
  have hq' : tmps[q]?.getD undef = .pointer (some ⟨g', 0, none⟩) := by simpa using hq
  simp [results, h, hp', hq', asAddr, run_loadVar_row w g t ty cs fr (.struct fs) hg hu rfl hi, run_loadVar_row w g' t' ty cs' fr' (.struct fs) hg' hu rfl hi', Result.andThen]
theorem slot2_apart {w : World} {g h : Nat} {o : Obj} {u v : Value} (hg : w.heap[g]? = some o) (hne : g ≠ h) :
    ((w.setCell ⟨h, 0, none⟩ u).setCell ⟨h, 1, none⟩ v).heap[g]? = some o := by
  rw [heap_setCell_other _ _ _ _ hne, heap_setCell_other _ _ _ _ hne]
  exact hg
end Go.Proofs.YtjmipbljoblnnaaDoor

namespace Go.Proofs.YtjmipbljoblnnaaDoor
open Go.RowKit

theorem cmpI_scale {x y c : Int} (hc : 0 < c) : cmpI (x * c) (y * c) = cmpI x y := by
  rcases Int.lt_trichotomy x y with h | h | h
  · rw [cmpI_lt h, cmpI_lt (Int.mul_lt_mul_of_pos_right h hc)]
  · rw [cmpI_eq h, cmpI_eq (by rw [h])]
  · rw [cmpI_gt h, cmpI_gt (Int.mul_lt_mul_of_pos_right h hc)]
theorem cmpI_zero_scale {x c : Int} (hc : 0 < c) : cmpI (x * c) 0 = cmpI x 0 := by
  have := cmpI_scale (x := x) (y := 0) hc
  rwa [Int.zero_mul] at this
/-- Numbers of different size are told apart by how great they are. -/
theorem cmp_dtops {p q : Bool} {A B E G : Int} {K : Nat} {s : Int} (hA : 0 ≤ A) (hB : 0 ≤ B) (hEK : 0 ≤ E + K) (hGK : 0 ≤ G + K) (hs : cmpI (sg p A) 0 = s) (ht : cmpI (sg q B) 0 = s) (hne : cmpI (dtop A E) (dtop B G) ≠ 0) :
    cmpI (sg p A * 2 ^ (E + K).toNat) (sg q B * 2 ^ (G + K).toNat) = s * cmpI (dtop A E) (dtop B G) := by
  have h1 := sign_tri hs
  have h2 := sign_tri ht
  have hp1 := pow2_pos (E + K).toNat
  have hp2 := pow2_pos (G + K).toNat
  have key : ∀ {A B E G : Int}, 0 < A → 0 < B → 0 ≤ E + K → 0 ≤ G + K → dtop A E < dtop B G → A * 2 ^ (E + K).toNat < B * 2 ^ (G + K).toNat := by
    intro A B E G hA hB h1 h2 h
    unfold dtop at h
    rw [if_neg (by omega), if_neg (by omega)] at h
    refine nb_lt (Int.mul_pos hA (pow2_pos _)) (Int.mul_pos hB (pow2_pos _)) ?_
    rw [nb_shift _ hA, nb_shift _ hB]
    omega
  rcases h1 with ⟨h3, rfl⟩ | ⟨h3, rfl⟩ | ⟨h3, rfl⟩
  · have hpt : p = true ∧ 0 < A := by
      cases p
      · rw [sg_false] at h3; omega
      · rw [sg_true] at h3; exact ⟨rfl, by omega⟩
    have hqt : q = true ∧ 0 < B := by
      cases q
      · rw [sg_false] at h2; omega
      · rw [sg_true] at h2; exact ⟨rfl, by omega⟩
    obtain ⟨rfl, hA'⟩ := hpt
    obtain ⟨rfl, hB'⟩ := hqt
    rw [sg_true, sg_true, Int.neg_mul, Int.neg_mul]
    rcases Int.lt_trichotomy (dtop A E) (dtop B G) with h | h | h
    · have := key hA' hB' hEK hGK h
      rw [cmpI_lt h, cmpI_gt (by omega)]; rfl
    · rw [cmpI_eq h] at hne; exact absurd rfl hne
    · have := key hB' hA' hGK hEK h
      rw [cmpI_gt h, cmpI_lt (by omega)]; rfl
  · have hA' : A = 0 := by cases p <;> simp only [sg_true, sg_false] at h3 <;> omega
    have hB' : B = 0 := by
      rcases h2 with ⟨_, h4⟩ | ⟨h4, _⟩ | ⟨_, h4⟩
      · exact absurd h4 (by decide)
      · cases q <;> simp only [sg_true, sg_false] at h4 <;> omega
      · exact absurd h4 (by decide)
    subst hA' hB'
    exact absurd (cmpI_eq rfl) hne
  · have hpt : p = false ∧ 0 < A := by
      cases p
      · rw [sg_false] at h3; exact ⟨rfl, h3⟩
      · rw [sg_true] at h3; omega
    have hqt : q = false ∧ 0 < B := by
      rcases h2 with ⟨_, h4⟩ | ⟨_, h4⟩ | ⟨h4, _⟩
      · exact absurd h4 (by decide)
      · exact absurd h4 (by decide)
      · cases q
        · rw [sg_false] at h4; exact ⟨rfl, h4⟩
        · rw [sg_true] at h4; omega
    obtain ⟨rfl, hA'⟩ := hpt
    obtain ⟨rfl, hB'⟩ := hqt
    rw [sg_false, sg_false]
    rcases Int.lt_trichotomy (dtop A E) (dtop B G) with h | h | h
    · rw [cmpI_lt h, cmpI_lt (key hA' hB' hEK hGK h)]; rfl
    · rw [cmpI_eq h] at hne; exact absurd rfl hne
    · rw [cmpI_gt h, cmpI_gt (key hB' hA' hGK hEK h)]; rfl
theorem cmp_dsigns {x y s t c d : Int} (hc : 0 < c) (hd : 0 < d) (hs : cmpI x 0 = s) (ht : cmpI y 0 = t) (hne : s ≠ t) : cmpI (x * c) (y * d) = cmpI s t := by
  have h1 : cmpI (x * c) 0 = s := by rw [cmpI_zero_scale hc]; exact hs
  have h2 : cmpI (y * d) 0 = t := by rw [cmpI_zero_scale hd]; exact ht
  rcases Int.lt_trichotomy s t with h | h | h
  · rw [cmpI_lt h, zcmp_signs h1 h2 h]
  · exact absurd h hne
  · rw [cmpI_gt h, zcmp_signs' h1 h2 h]

end Go.Proofs.YtjmipbljoblnnaaDoor

namespace Go.Proofs.YtjmipbljoblnnaaDoor
open Go.RowKit

theorem odd_pow_unique {N N' : Int} {s t : Nat} (h : N * 2 ^ s = N' * 2 ^ t) (hN : ∃ z, N = 2 * z + 1) (hN' : ∃ z, N' = 2 * z + 1) : s = t ∧ N = N' := by
  obtain ⟨z, rfl⟩ := hN
  obtain ⟨y, rfl⟩ := hN'
  have e : s = t := isLow_unique (N := (2 * z + 1) * 2 ^ s) ⟨z, by rw [Int.mul_comm]⟩ ⟨y, by rw [h, Int.mul_comm]⟩
  subst e
  have hp := pow2_pos s
  exact ⟨rfl, Int.eq_of_mul_eq_mul_right (by omega) h⟩
/-- The dyad of an odd number is that number itself. -/
theorem RetDy.odd {w w' : World} {p : Bool} {N E : Int} {m : Nat} {e : Ending} (h : RetDy w p N E m e w') (hz : ∃ z, N = 2 * z + 1) : ∃ a n c, e = .returned (.agg #[.bool p, .slice a n c, .int .i64 E]) ∧ NewN w.heap.size w' (.slice a n c) N m ∧ Below w.heap.size w w' := by
  obtain ⟨p', a, n, c, N', E', t, rfl, hN, hv, hb⟩ := h
  rcases hv with ⟨h0, -⟩ | ⟨-, rfl, h2, rfl, -, hz'⟩
  · obtain ⟨z, hz⟩ := hz; omega
  · obtain ⟨h3, h4⟩ := odd_pow_unique (s := t) (t := 0) (by rw [h2, Int.pow_zero, Int.mul_one]) hz' hz
    subst h3 h4
    exact ⟨a, n, c, by simp, hN, hb⟩
set_option maxRecDepth 100000 in
theorem inf_num (w : World) : Calls Tryd.prog 49 #[.int .i64 1] w fun e w' => RetB w (.float .f64 9218868437227405312) e w' := by
  go_enter Tryd.func49, Tryd.ntmps49
  go_wp2_with (simp only [frombits_run])
  go_ret
  exact ⟨rfl, rfl⟩
theorem un_075 (L : Nat) (hL : L = 1021) : (un (rg 4604930618986332160) : Int) = 3 * 2 ^ (51 + L) := by
  have h := un_pack (L := L) (man := 6755399441055744) (by decide) (Or.inl (by decide))
  have e : rg 4604930618986332160 = L * 4503599627370496 + 6755399441055744 := by rw [hL]; decide
  rw [e, h, cast_pow2, Int.pow_add, ← Int.mul_assoc]
  congr 1
theorem tz_five : TZ 4617315517961601024 true 5 0 := by
  have h := tz_whole (N := 5) (E := 0) (j := 50) (L := 1024) (man := 5629499534213120) (by decide) (by decide) (by decide) (Or.inl (by decide)) (by decide)
  exact h
end Go.Proofs.YtjmipbljoblnnaaDoor

namespace Go.Proofs.YtjmipbljoblnnaaDoor
open Go.RowKit

theorem rqtop_val {neg : Bool} {N : Int} {e0 L : Nat} (hN : 0 < N) : rqtop L (sg neg N * 2 ^ e0) = (nb N : Int) + (e0 : Int) - (L : Int) := by
  have hp := pow2_pos e0
  have h1 : 0 < N * 2 ^ e0 := Int.mul_pos hN hp
  have ha := rz_abs (neg := neg) (N := N) (E := e0) (by omega) rfl
  unfold rqtop
  rw [if_neg (by rw [← sg_scale]; cases neg <;> simp only [sg_true, sg_false] <;> omega), ha, nb_shift _ hN]
  omega
theorem rz_pos {p q : Bool} {V N : Int} {a b : Nat} (hV : 0 < V) (hN : 0 ≤ N) (h : sg p V * 2 ^ a = sg q N * 2 ^ b) : V * 2 ^ a = N * 2 ^ b ∧ p = q ∧ 0 < N := by
  have h1 := rz_abs (neg := p) (N := V) (E := a) (by omega) rfl
  have h2 := rz_abs (neg := q) (N := N) (E := b) hN rfl
  rw [h] at h1
  have h3 := h1.symm.trans h2
  have hpa := Int.mul_pos hV (pow2_pos a)
  have hpb := pow2_pos b
  have hN0 : 0 < N := by
    rcases Int.lt_or_eq_of_le hN with h4 | h4
    · exact h4
    · rw [← h4, Int.zero_mul] at h3; omega
  refine ⟨h3, ?_, hN0⟩
  have hpn := Int.mul_pos hN0 hpb
  rw [← sg_scale, ← sg_scale] at h
  cases p <;> cases q <;> first | rfl | (simp only [sg_true, sg_false] at h; omega)
theorem odd_le {N V : Int} {a b : Nat} (hz : ∃ z, N = 2 * z + 1) (h : V * 2 ^ a = N * 2 ^ b) : a ≤ b := by
  rcases Nat.lt_or_ge b a with h1 | h1
  · exfalso
    obtain ⟨d, rfl⟩ := Nat.le.dest (show b + 1 ≤ a by omega)
    obtain ⟨z, rfl⟩ := hz
    have hp := pow2_pos b
    have e : V * 2 ^ (b + 1 + d) = V * 2 ^ d * 2 * 2 ^ b := by rw [Int.pow_add, Int.pow_succ]; grind
    rw [e] at h
    have := Int.eq_of_mul_eq_mul_right (by omega) h
    omega
  · exact h1
/-- What the rounded number's digits and exponent are, from the least place on. -/
theorem rf_scale {neg q : Bool} {V N E E' : Int} {j L E0 E0' Lj : Nat} (hV : 0 < V) (hV53 : V ≤ 9007199254740992) (hN : 0 ≤ N) (hz : ∃ z, N = 2 * z + 1) (h : sg neg V * 2 ^ (E0 + j) = sg q N * 2 ^ E0') (hE : E + (L : Int) = (E0 : Int)) (hE' : E' + (L : Int) = (E0' : Int)) (hL : (Lj : Int) = E + (j : Int) + 1074) (h1074 : 1074 ≤ L) :
    -1074 ≤ E' ∧ 0 < N ∧ N < 9007199254740992 ∧ N * 2 ^ (E' + 1074).toNat = V * 2 ^ Lj := by
  obtain ⟨h1, -, h3⟩ := rz_pos hV hN h
  have h4 := odd_le hz h1
  obtain ⟨M, hM⟩ : ∃ M, L - 1074 = M := ⟨_, rfl⟩
  have e1 : E0 + j = Lj + M := by omega
  have e2 : E0' = (E' + 1074).toNat + M := by omega
  have h5 : N * 2 ^ (E' + 1074).toNat = V * 2 ^ Lj := by
    rw [e1, e2, Int.pow_add, Int.pow_add, ← Int.mul_assoc, ← Int.mul_assoc] at h1
    have hp := pow2_pos M
    exact (Int.eq_of_mul_eq_mul_right (by omega) h1).symm
  refine ⟨by omega, h3, ?_, h5⟩
  obtain ⟨d, hd⟩ := Nat.le.dest (show Lj ≤ (E' + 1074).toNat by omega)
  rw [← hd, Int.pow_add, Int.mul_comm (2 ^ Lj), ← Int.mul_assoc] at h5
  have hp := pow2_pos Lj
  have h6 := Int.eq_of_mul_eq_mul_right (by omega) h5
  have hpd := pow2_pos d
  have h7 : N * 1 ≤ N * 2 ^ d := Int.mul_le_mul_of_nonneg_left (by omega) (by omega)
  obtain ⟨z, rfl⟩ := hz
  omega
theorem un_low {x : Nat} (h : x < 4503599627370496) : (un x : Int) = (x : Int) := by
  unfold un; rw [if_pos h]

end Go.Proofs.YtjmipbljoblnnaaDoor

namespace Go.Proofs.YtjmipbljoblnnaaDoor
open Go.RowKit

def IsSL (N : Int) (k : Nat) (v : Value) (w : World) : Prop := ∃ a n c, v = .slice a n c ∧ ∃ base, NewN base w (.slice a n c) N k
theorem IsSL.keeps (N : Int) (k : Nat) : Keeps (IsSL N k) := fun _ _ _ hb ⟨a, n, c, h1, base, h2⟩ => ⟨a, n, c, h1, base, h2.below hb⟩
theorem RQ.parts {L : Nat} {w : World} {q : Bool} {a2 : Option Addr} {n2 c2 : Nat} {G Z : Int} {m b : Nat} (hr : RQ L w (.agg #[.bool q, .slice a2 n2 c2, .int .i64 G]) Z m b) {p : Bool} {N E : Int} {E0 : Nat} (hN : 0 ≤ N) (ho : N ≠ 0 → ∃ z, N = 2 * z + 1) (h0 : N = 0 → p = false ∧ E = 0) (hE : E + (L : Int) = (E0 : Int)) (hv : sg p N * 2 ^ E0 = Z) :
    RN w (.slice a2 n2 c2) N m ∧ p = q ∧ E = G := by
  obtain ⟨M, G0, h1, h2, h3, h4, h5, -⟩ := hr.open
  rw [h2] at hv
  by_cases hz : N = 0
  · have hM : M = 0 := by
      have := rz_abs (neg := q) (N := M) (E := G0) h1.nonneg rfl
      rw [← hv, hz] at this
      have e : sg p 0 = 0 := by cases p <;> rfl
      rw [e, Int.zero_mul] at this
      have hp := pow2_pos G0
      rcases Int.lt_or_eq_of_le h1.nonneg with h6 | h6
      · have := Int.mul_pos h6 hp
        unfold absI at *
        simp at *
        omega
      · exact h6.symm
    obtain ⟨h6, h7⟩ := h4 hM
    obtain ⟨h8, h9⟩ := h0 hz
    rw [hz, ← hM]
    exact ⟨h1, by rw [h8, h6], by rw [h9, h7]⟩
  · obtain ⟨h6, h7, h8⟩ := rz_pos (by omega : 0 < N) h1.nonneg hv
    obtain ⟨h9, h10⟩ := odd_pow_unique h6 (ho hz) (h5 (by omega))
    rw [h10]
    exact ⟨h1, h7, by omega⟩
theorem tz_shift {R : Nat} {ex : Bool} {N E : Int} {d : Nat} (h : TZ R ex N (E + (d : Int))) : TZ R ex (N * 2 ^ d) E := by
  have key : ∀ K : Nat, 0 ≤ E + K → N * 2 ^ d * 2 ^ (E + K).toNat = N * 2 ^ (E + (d : Int) + K).toNat := by
    intro K hK
    rw [Int.mul_assoc, ← Int.pow_add]
    exact congrArg (fun n : Nat => N * (2 : Int) ^ n) (by omega)
  refine ⟨h.lt, fun hx K h1 h2 => ?_, fun hx K h1 h2 => ?_⟩
  · rw [key K h2]; exact h.eq hx K h1 (by omega)
  · rw [key K h2]; exact h.gt hx K h1 (by omega)
end Go.Proofs.YtjmipbljoblnnaaDoor

namespace Go.Proofs.YtjmipbljoblnnaaDoor
open Go.RowKit

/-- A dyad of the program's that is the integer Z, L places up. -/
def DQ (L : Nat) (w : World) (v : Value) (Z : Int) (m b : Nat) : Prop :=
  ∃ p a n c N E E0, v = .agg #[.bool p, .slice a n c, .int .i64 E] ∧ Num w (.slice a n c) N m ∧ Z = sg p N * 2 ^ (E0 : Nat) ∧ E + (L : Int) = (E0 : Int) ∧ (N = 0 → p = false ∧ E = 0) ∧ E0 ≤ b
def RetDQ (L : Nat) (w : World) (Z : Int) (m b : Nat) (e : Ending) (w' : World) : Prop :=
  ∃ p a n c E, e = .returned (.agg #[.bool p, .slice a n c, .int .i64 E]) ∧ DQ L w' (.agg #[.bool p, .slice a n c, .int .i64 E]) Z m b ∧ Below w.heap.size w w'
theorem DQ.below {L : Nat} {w w' : World} {v : Value} {Z : Int} {m b : Nat} (h : DQ L w v Z m b) (hb : Below w.heap.size w w') : DQ L w' v Z m b := by
  obtain ⟨p, a, n, c, N, E, E0, h1, h2, h3⟩ := h
  exact ⟨p, a, n, c, N, E, E0, h1, h2.below hb, h3⟩
def IsS2 (p : Bool) (N : Int) (k : Nat) (v : Value) (w : World) : Prop := ∃ a n c, v = .agg #[.bool p, .slice a n c] ∧ ∃ base, NewN base w (.slice a n c) N k
def IsS3 (p : Bool) (E N : Int) (k : Nat) (v : Value) (w : World) : Prop := ∃ a n c, v = .agg #[.bool p, .slice a n c, .int .i64 E] ∧ ∃ base, NewN base w (.slice a n c) N k
theorem IsS2.keeps (p : Bool) (N : Int) (k : Nat) : Keeps (IsS2 p N k) := fun _ _ _ hb ⟨a, n, c, h1, base, h2⟩ => ⟨a, n, c, h1, base, h2.below hb⟩
theorem IsS3.keeps (p : Bool) (E N : Int) (k : Nat) : Keeps (IsS3 p E N k) := fun _ _ _ hb ⟨a, n, c, h1, base, h2⟩ => ⟨a, n, c, h1, base, h2.below hb⟩
theorem num_var3 {w w' : World} {a : Option Addr} {n c : Nat} {N : Int} {m g lo hi : Nat} (h : Num w (.slice a n c) N m) {p : Bool} {a1 : Option Addr} {n1 c1 : Nat} {E : Int} {t : TypeId} (hv : w.heap[g]? = some (.cells #[.bool p, .slice a1 n1 c1, .int .i64 E] t (0, 0))) (ho : Only g lo hi w w') : Num w' (.slice a n c) N m := by
  obtain ⟨l, ⟨a', c', he, h1, h2, h3, h4⟩, h5, h6⟩ := h
  simp only [Value.slice.injEq] at he
  obtain ⟨rfl, rfl, rfl⟩ := he
  refine ⟨l, ⟨a, c, rfl, h1, h2, ?_, h4⟩, h5, h6⟩
  rcases h3 with h3 | ⟨b, o, rfl, hat⟩
  · exact Or.inl h3
  · by_cases hl : l = []
    · exact Or.inl hl
    · refine Or.inr ⟨b, o, rfl, ho.at' hat ?_⟩
      rintro rfl
      have hat0 := hat 0 (List.length_pos_iff.2 hl)
      rw [cell_of_row w b _ _ t _ hv] at hat0
      match o, hat0 with
      | 0, hat0 => simp at hat0
      | 1, hat0 => simp at hat0
      | 2, hat0 => simp at hat0
      | o + 3, hat0 => simp at hat0
set_option maxRecDepth 100000 in
set_option maxHeartbeats 1200000 in
theorem real_num {L : Nat} {w : World} {p : Bool} {a : Option Addr} {n c : Nat} {E : Int} {Z : Int} {m b k : Nat} (hX : RQ L w (.agg #[.bool p, .slice a n c, .int .i64 (E : Int)]) Z m b) (hm : m ≤ 10000) (hk : m ≤ 2 * k) :
    Calls Tryd.prog 8 #[.agg #[.bool p, .slice a n c, .int .i64 (E : Int)]] w fun e w' => RetDQ L w Z k b e w' := by
  obtain ⟨N, E0, h1, hz1, hEE, h0, -, hE⟩ := hX.open
  have HZ := Lib.hid (And.intro hz1 (And.intro hEE (And.intro h0 hE)))
  obtain ⟨w1, hw1⟩ : ∃ w1, w.alloc (.cells #[.bool p, .slice a n c, .int .i64 E] 31) = w1 := ⟨_, rfl⟩
  obtain ⟨w2, hw2⟩ : ∃ w2, w1.alloc (.cells #[.bool false, .slice none 0 0, .int .i64 0] 37) = w2 := ⟨_, rfl⟩
  have hb1 : Below w.heap.size w w1 := hw1 ▸ below_alloc w _
  have hb12 : Below w1.heap.size w1 w2 := hw2 ▸ below_alloc w1 _
  have hb2 : Below w.heap.size w w2 := hb1.trans (hb12.mono hb1.size)
  have hc1 : w2.heap[w.heap.size]? = some (.cells #[.bool p, .slice a n c, .int .i64 E] 31 (0, 0)) := slot_kept (hw1 ▸ heap_alloc_new w _) hb12
  have hc2 : w2.heap[w1.heap.size]? = some (.cells #[.bool false, .slice none 0 0, .int .i64 0] 37 (0, 0)) := hw2 ▸ heap_alloc_new w1 _
  replace h1 := h1.below hb2
  clear hX hz1 hEE h0 hE hb12
  go_enter Tryd.func8, Tryd.ntmps8
  go_upto_region 1 with fail
  refine wp_region_slots_tail (by kernel_rfl) 9 [3, 4, 5, 6, 7, 8, 9, 10, 11] (fun w' => w'.heap[w.heap.size]? = some (.cells #[.bool p, .slice a n c, .int .i64 E] 31 (0, 0)) ∧ w'.heap[w1.heap.size]? = some (.cells #[.bool false, .slice none 0 0, .int .i64 0] 37 (0, 0)) ∧ RN w' (.slice a n c) N m ∧ Below w2.heap.size w2 w') (Said [Is (.pointer (some ⟨w.heap.size, 0, none⟩)), Is (.bool p), Is (.pointer (some ⟨w.heap.size, 1, none⟩)), Is (.slice a n c), IsSL N k, IsS2 p N k, Is (.pointer (some ⟨w.heap.size, 2, none⟩)), Is (.int .i64 E), IsS3 p E N k]) (by kernel_rfl) (by kernel_rfl) (by kernel_rfl) (by kernel_rfl) (by kernel_rfl) (Said.keep ?keep) ⟨slot_kept hc1 (bdn (Below.refl _ _) 1), slot_kept hc2 (bdn (Below.refl _ _) 1), h1.below (bdn (Below.refl _ _) 1), bdn (Below.refl _ _) 1⟩ (l := [0, 1, 2, 3, 4, 5, 6, 7, 8]) (by kernel_rfl) ?step ?fin
  case keep =>
    refine List.forall_mem_cons.2 ⟨Is.keeps _, ?_⟩
    refine List.forall_mem_cons.2 ⟨Is.keeps _, ?_⟩
    refine List.forall_mem_cons.2 ⟨Is.keeps _, ?_⟩
    refine List.forall_mem_cons.2 ⟨Is.keeps _, ?_⟩
    refine List.forall_mem_cons.2 ⟨IsSL.keeps _ _, ?_⟩
    refine List.forall_mem_cons.2 ⟨IsS2.keeps _ _ _, ?_⟩
    refine List.forall_mem_cons.2 ⟨Is.keeps _, ?_⟩
    refine List.forall_mem_cons.2 ⟨Is.keeps _, ?_⟩
    refine List.forall_mem_cons.2 ⟨IsS3.keeps _ _ _ _, ?_⟩
    exact fun _ h => nomatch h
  case step =>
    refine List.forall_mem_cons.2 ⟨?_, ?_⟩
    · refine SlotStep.plain rfl rfl rfl ?_
      intro tm ws hsame hS hg K hK
      have e1 : tm[1]? = some (.pointer (some ⟨w.heap.size, 0, none⟩)) := hsame.2 1 rfl
      go_simp
      exact hK _ _ (Below.refl _ _) hS (rfl)
    refine List.forall_mem_cons.2 ⟨?_, ?_⟩
    · refine SlotStep.plain rfl rfl rfl ?_
      intro tm ws hsame hS hg K hK
      obtain ⟨v3, e3, rfl⟩ := hg 0 (by kernel_rfl) _ 3 rfl rfl
      obtain ⟨⟨k0, k1, k2⟩, -⟩ := slot3 hS.1
      go_simp
      exact hK _ _ (Below.refl _ _) hS (rfl)
    refine List.forall_mem_cons.2 ⟨?_, ?_⟩
    · refine SlotStep.plain rfl rfl rfl ?_
      intro tm ws hsame hS hg K hK
      have e1 : tm[1]? = some (.pointer (some ⟨w.heap.size, 0, none⟩)) := hsame.2 1 rfl
      go_simp
      exact hK _ _ (Below.refl _ _) hS (rfl)
    refine List.forall_mem_cons.2 ⟨?_, ?_⟩
    · refine SlotStep.plain rfl rfl rfl ?_
      intro tm ws hsame hS hg K hK
      obtain ⟨v5, e5, rfl⟩ := hg 2 (by kernel_rfl) _ 5 rfl rfl
      obtain ⟨⟨k0, k1, k2⟩, -⟩ := slot3 hS.1
      go_simp
      exact hK _ _ (Below.refl _ _) hS (rfl)
    refine List.forall_mem_cons.2 ⟨?_, ?_⟩
    · refine SlotStep.plain rfl rfl rfl ?_
      intro tm ws hsame hS hg K hK
      obtain ⟨v6, e6, rfl⟩ := hg 3 (by kernel_rfl) _ 6 rfl rfl
      go_simp
      refine (limbs_num hS.2.2.1 (by omega) hk).mono ?_
      rintro e wm ⟨aR, nR, cR, rfl, hR, hb⟩
      exact hK _ _ hb (⟨slot_kept hS.1 (hb), slot_kept hS.2.1 (hb), hS.2.2.1.below (hb), hS.2.2.2.trans (Below.mono (hb) hS.2.2.2.size)⟩) ⟨aR, nR, cR, rfl, _, hR⟩
    refine List.forall_mem_cons.2 ⟨?_, ?_⟩
    · refine SlotStep.plain rfl rfl rfl ?_
      intro tm ws hsame hS hg K hK
      obtain ⟨v4, e4, rfl⟩ := hg 1 (by kernel_rfl) _ 4 rfl rfl
      obtain ⟨v7, e7, ⟨a7, n7, c7, rfl, g7⟩⟩ := hg 4 (by kernel_rfl) _ 7 rfl rfl
      go_simp
      exact hK _ _ (Below.refl _ _) hS (⟨a7, n7, c7, rfl, g7⟩)
    refine List.forall_mem_cons.2 ⟨?_, ?_⟩
    · refine SlotStep.plain rfl rfl rfl ?_
      intro tm ws hsame hS hg K hK
      have e1 : tm[1]? = some (.pointer (some ⟨w.heap.size, 0, none⟩)) := hsame.2 1 rfl
      go_simp
      exact hK _ _ (Below.refl _ _) hS (rfl)
    refine List.forall_mem_cons.2 ⟨?_, ?_⟩
    · refine SlotStep.plain rfl rfl rfl ?_
      intro tm ws hsame hS hg K hK
      obtain ⟨v9, e9, rfl⟩ := hg 6 (by kernel_rfl) _ 9 rfl rfl
      obtain ⟨⟨k0, k1, k2⟩, -⟩ := slot3 hS.1
      go_simp
      exact hK _ _ (Below.refl _ _) hS (rfl)
    refine List.forall_mem_cons.2 ⟨?_, ?_⟩
    · refine SlotStep.plain rfl rfl rfl ?_
      intro tm ws hsame hS hg K hK
      obtain ⟨v8, e8, ⟨a8, n8, c8, rfl, g8⟩⟩ := hg 5 (by kernel_rfl) _ 8 rfl rfl
      obtain ⟨v10, e10, rfl⟩ := hg 7 (by kernel_rfl) _ 10 rfl rfl
      go_simp
      exact hK _ _ (Below.refl _ _) hS (⟨a8, n8, c8, rfl, g8⟩)
    exact fun _ h => nomatch h
  case fin =>
    intro tm w8 hsame hS hgot
    obtain ⟨u, hu, htm⟩ := hsame.form (by kernel_rfl)
    obtain ⟨v11, e11, aR, nR, cR, rfl, base, hr⟩ := hgot 8 (by decide) _ 11 rfl rfl
    have h11 := hu _ _ e11
    obtain ⟨-, hblk, -, hb8⟩ := hS
    obtain ⟨⟨q0, q1, q2⟩, f0, f1, f2⟩ := slot3 hblk
    have hend := slot3_set (u := .bool p) (v := .slice aR nR cR) (s := .int .i64 E) hblk
    have hon := slot3_only (w := w8) (g := w1.heap.size) (.bool p) (.slice aR nR cR) (.int .i64 E)
    have hbw := hb2.trans (hb8.mono hb2.size)
    have HR : Hid (RetDQ L w Z k b (.returned (.agg #[.bool p, .slice aR nR cR, .int .i64 E])) (((w8.setCell ⟨w1.heap.size, 0, none⟩ (.bool p)).setCell ⟨w1.heap.size, 1, none⟩ (.slice aR nR cR)).setCell ⟨w1.heap.size, 2, none⟩ (.int .i64 E))) :=
      Lib.hid ⟨p, aR, nR, cR, E, rfl, ⟨p, aR, nR, cR, N, E, E0, rfl, num_var3 hr.num hblk hon, HZ.out.1, HZ.out.2.1, HZ.out.2.2.1, HZ.out.2.2.2⟩, hbw.trans (hon.below hb1.size hbw.size)⟩
    clear hgot hu hsame e11 hr
    rw [htm]
    clear htm tm
    simp only [List.foldl_cons, List.foldl_nil, List.setIfInBounds_toArray, List.set_cons_zero, List.set_cons_succ, h11, List.drop_succ_cons, List.drop_zero]
    clear h11
    go_wp2_with fail
    exact bodyPost_ret (results_cell_row rfl _ _ w1.heap.size 37 _ (0, 0) _ rfl hend Tryd.underlying37 rfl (by kernel_rfl)) rfl HR.out
end Go.Proofs.YtjmipbljoblnnaaDoor

namespace Go.Proofs.YtjmipbljoblnnaaDoor
open Go.RowKit

/-- A word that is a number: its digits are at most 53. -/
theorem read_mag {b : Nat} (h : rg b < INF) : ∃ m p : Nat, Ieee.double.read b = .number (fneg b) m (Ieee.double.leastPlace + (p : Int)) ∧ m * 2 ^ p = un (rg b) ∧ m < 9007199254740992 := by
  unfold Ieee.Format.read
  have e1 : Ieee.double.signWeight = 9223372036854775808 := by decide
  have e2 : Ieee.double.binade = 4503599627370496 := by decide
  have e3 : Ieee.double.infRung = INF := by decide
  simp only [e1, e2, e3]
  change b % 9223372036854775808 < INF at h
  by_cases h1 : b % 9223372036854775808 < 4503599627370496
  · rw [if_pos h1]
    refine ⟨rg b, 0, by simp [fneg, rg], ?_, by unfold rg; omega⟩
    unfold un
    rw [if_pos (show rg b < _ from h1)]
    omega
  · rw [if_neg h1, if_pos h]
    refine ⟨4503599627370496 + rg b % 4503599627370496, rg b / 4503599627370496 - 1, by simp [fneg, rg], ?_, by omega⟩
    unfold un
    rw [if_neg (show ¬ rg b < _ from h1)]
theorem un_form (R : Nat) : ∃ man L, un R = man * 2 ^ L ∧ man < 9007199254740992 := by
  unfold un
  by_cases h : R < 4503599627370496
  · rw [if_pos h]
    exact ⟨R, 0, by rw [Nat.pow_zero, Nat.mul_one], by omega⟩
  · rw [if_neg h]
    exact ⟨4503599627370496 + R % 4503599627370496, _, rfl, by omega⟩
/-- Numbers of 53 digits lie no closer than two units where there are 55. -/
theorem coarse {R d k0 f : Nat} (hf : 9007199254740992 ≤ f) (h : 2 * f * 2 ^ k0 < un R * 2 ^ d) : (2 * f + 2) * 2 ^ k0 ≤ un R * 2 ^ d := by
  obtain ⟨man, L, e, hm⟩ := un_form R
  have e' : un R * 2 ^ d = man * 2 ^ (L + d) := by rw [e, Nat.mul_assoc, ← Nat.pow_add]
  rw [e'] at h ⊢
  have hk := Nat.two_pow_pos k0
  rcases Nat.lt_or_ge k0 (L + d) with hlt | hge
  · obtain ⟨i, hi⟩ : ∃ i, L + d = i + 1 + k0 := ⟨L + d - 1 - k0, by omega⟩
    obtain ⟨a, ha⟩ : ∃ a, man * 2 ^ i = a := ⟨_, rfl⟩
    have e2 : man * 2 ^ (L + d) = 2 * a * 2 ^ k0 := by
      rw [hi, Nat.pow_add, Nat.pow_succ, ← ha]; grind
    rw [e2] at h ⊢
    have h1 : 2 * f < 2 * a := Nat.lt_of_mul_lt_mul_right h
    exact Nat.mul_le_mul_right _ (by omega)
  · exfalso
    have h1 : man * 2 ^ (L + d) ≤ man * 2 ^ k0 := Nat.mul_le_mul_left _ (Nat.pow_le_pow_right (by decide) hge)
    have h2 : man * 2 ^ k0 ≤ 2 * f * 2 ^ k0 := Nat.mul_le_mul_right _ (by omega)
    omega
theorem opp_place {p q more : Nat} {lp : Int} (h : lp = -1074) : lp + (p : Int) - (lp + (q : Int)) - (more : Int) - 1 = lp + ((p + 1074 : Nat) : Int) - ((q + more + 1 : Nat) : Int) := by
  omega
/-- The quotient of two finite float64 lies beside the exact one. -/
theorem fquo_num {b c K : Nat} (hb : rg b < INF) (hc : rg c < INF) (h0 : un (rg c) ≠ 0) (hK : K = 1074) : ∃ x, floatBits .quo .f64 b c = some x ∧ NearR x ((if fneg c then -1 else 1) * fv b * (2 ^ K : Nat)) (un (rg c)) := by
  obtain ⟨m, p, e1, h1, hm53⟩ := read_mag hb
  obtain ⟨n, q, f1, g1⟩ := read_num hc
  show ∃ x, Ieee.double.div b c = some x ∧ _
  unfold Ieee.Format.div
  rw [e1, f1]
  have hn : n ≠ 0 := by
    rintro rfl
    rw [Nat.zero_mul] at g1
    exact h0 g1.symm
  have hfb : Ieee.double.fractionBits + 2 = 54 := rfl
  simp only [Ieee.Datum.quotient, if_neg hn, Option.map_some, hfb]
  refine ⟨_, rfl, ?_⟩
  obtain ⟨more, hmore⟩ : ∃ more, 54 + n.log2 - m.log2 = more := ⟨_, rfl⟩
  rw [hmore, Nat.shiftLeft_eq]
  show NearR (Ieee.double.nearest (fneg b ^^ fneg c) _ _) _ _
  rw [opp_place (lp := Ieee.double.leastPlace) (by decide), ← hK]
  have hS : (if fneg c then -1 else 1) * fv b * ((2 ^ K : Nat) : Int) = if (fneg b ^^ fneg c) then -((m * 2 ^ p * 2 ^ K : Nat) : Int) else ((m * 2 ^ p * 2 ^ K : Nat) : Int) := by
    rw [h1, fv_sign b, Int.natCast_mul]
    cases fneg b <;> cases fneg c <;> simp [Int.neg_mul, Int.mul_neg]
  rw [hS, ← g1]
  by_cases hm : m = 0
  · subst hm
    have e : (2 * (0 * 2 ^ more / n) + (0 * 2 ^ more % n != 0).toNat) = 0 := by simp
    rw [e, nearest_zero, Nat.zero_mul, Nat.zero_mul]
    have hpos : 0 < n * 2 ^ q := Nat.mul_pos (by omega) (Nat.two_pow_pos q)
    generalize (fneg b ^^ fneg c) = s
    cases s
    · exact near_zeroR false hpos
    · exact near_zeroR true hpos
  · obtain ⟨f, hf⟩ : ∃ f, m * 2 ^ more / n = f := ⟨_, rfl⟩
    obtain ⟨ρ, hρ⟩ : ∃ ρ, m * 2 ^ more % n = ρ := ⟨_, rfl⟩
    have hD : m * 2 ^ more = f * n + ρ := by
      have := Nat.div_add_mod (m * 2 ^ more) n
      rw [hf, hρ, Nat.mul_comm] at this
      exact this.symm
    have hρn : ρ < n := by rw [← hρ]; exact Nat.mod_lt _ (by omega)
    rw [hf, hρ]
    -- the quotient has more than 53 digits
    have hmlog : m.log2 ≤ 54 + n.log2 := by
      have := (Nat.log2_lt hm).2 (show m < 2 ^ 53 from hm53)
      omega
    have hbig : 9007199254740992 ≤ f := by
      have a1 : 2 ^ m.log2 ≤ m := Nat.log2_self_le hm
      have a2 : n < 2 ^ (n.log2 + 1) := Nat.lt_log2_self
      have a3 : 2 ^ (54 + n.log2) ≤ m * 2 ^ more := by
        rw [show 54 + n.log2 = m.log2 + more by omega, Nat.pow_add]
        exact Nat.mul_le_mul_right _ a1
      rw [← hf, Nat.le_div_iff_mul_le (by omega), show (9007199254740992 : Nat) = 2 ^ 53 from rfl]
      refine Nat.le_trans (Nat.mul_le_mul_left _ (Nat.le_of_lt a2)) ?_
      rw [← Nat.pow_add, show 53 + (n.log2 + 1) = 54 + n.log2 by omega]
      exact a3
    obtain ⟨t, ht⟩ : ∃ t, (ρ != 0).toNat = t := ⟨_, rfl⟩
    rw [ht]
    have htc : (t = 0 ∧ ρ = 0) ∨ (t = 1 ∧ ρ ≠ 0) := by
      by_cases h : ρ = 0
      · subst h; left; exact ⟨ht.symm, rfl⟩
      · right; refine ⟨?_, h⟩; rw [← ht]; simp [h]
    obtain ⟨r, hr, e, hup, hdn⟩ := nearest_gen (fneg b ^^ fneg c) (T := 2 * f + t) (k0 := p + K) (d := q + more + 1) (by omega)
    rw [e]
    -- what an amount compares with, in the units of the division
    obtain ⟨Z, hZ⟩ : ∃ Z, 2 ^ (p + K) = Z := ⟨_, rfl⟩
    have hZ0 : 0 < Z := by rw [← hZ]; exact Nat.two_pow_pos _
    have key : ∀ R, un R * (n * 2 ^ q) * 2 ^ (more + 1) = un R * 2 ^ (q + more + 1) * n := fun R => by
      rw [show q + more + 1 = q + (more + 1) by omega, Nat.pow_add]; grind
    have key2 : m * 2 ^ p * 2 ^ K * 2 ^ (more + 1) = (2 * f * n + 2 * ρ) * Z := by
      have : m * 2 ^ p * 2 ^ K * 2 ^ (more + 1) = 2 * (m * 2 ^ more) * (2 ^ p * 2 ^ K) := by rw [Nat.pow_succ]; grind
      rw [this, hD, ← Nat.pow_add, hZ]; grind
    have hpm := Nat.two_pow_pos (more + 1)
    have hn0 : 0 < n := by omega
    rw [hZ] at hup hdn
    refine near_ofR hr (Nat.mul_ne_zero (Nat.mul_ne_zero hm (by have := Nat.two_pow_pos p; omega)) (by have := Nat.two_pow_pos K; omega)) (fun R hR h => ?_) (fun R h => ?_)
    · have h2 := Nat.mul_le_mul_right (2 ^ (more + 1)) h
      rw [key, key2] at h2
      refine hup R hR ?_
      obtain ⟨u, hu⟩ : ∃ u, un R * 2 ^ (q + more + 1) = u := ⟨_, rfl⟩
      rw [hu] at h2 ⊢
      rcases htc with ⟨rfl, rfl⟩ | ⟨rfl, hρ0⟩
      · have h3 : u * n ≤ 2 * f * Z * n := by rw [show 2 * f * Z * n = (2 * f * n + 2 * 0) * Z by grind]; exact h2
        have := Nat.le_of_mul_le_mul_right h3 hn0
        rw [Nat.add_zero]; exact this
      · have h3 : u * n < (2 * f + 2) * Z * n := by
          refine Nat.lt_of_le_of_lt h2 ?_
          rw [show (2 * f + 2) * Z * n = (2 * f * n + 2 * n) * Z by grind]
          exact Nat.mul_lt_mul_of_pos_right (by omega) hZ0
        have h4 := Nat.lt_of_mul_lt_mul_right h3
        rcases Nat.lt_or_ge (2 * f * Z) u with h5 | h5
        · rw [← hu, ← hZ] at h5
          have := coarse hbig h5
          rw [hu, hZ] at this
          omega
        · refine Nat.le_trans h5 (Nat.mul_le_mul_right _ (by omega))
    · have h2 := Nat.mul_le_mul_right (2 ^ (more + 1)) h
      rw [key, key2] at h2
      refine hdn R ?_
      obtain ⟨u, hu⟩ : ∃ u, un R * 2 ^ (q + more + 1) = u := ⟨_, rfl⟩
      rw [hu] at h2 ⊢
      rcases htc with ⟨rfl, rfl⟩ | ⟨rfl, hρ0⟩
      · have h3 : 2 * f * Z * n ≤ u * n := by rw [show 2 * f * Z * n = (2 * f * n + 2 * 0) * Z by grind]; exact h2
        have := Nat.le_of_mul_le_mul_right h3 hn0
        rw [Nat.add_zero]; exact this
      · have h3 : 2 * f * Z * n < u * n := by
          refine Nat.lt_of_lt_of_le ?_ h2
          rw [show 2 * f * Z * n = (2 * f * n) * Z by grind]
          exact Nat.mul_lt_mul_of_pos_right (by omega) hZ0
        have h4 := Nat.lt_of_mul_lt_mul_right h3
        rw [← hu, ← hZ] at h4
        have := coarse hbig h4
        rw [hu, hZ] at this
        exact Nat.le_trans (Nat.mul_le_mul_right _ (by omega)) this

theorem root_from (n : Nat) : ∀ (todo root : Nat), root * root ≤ n → n < (root + 2 ^ todo) * (root + 2 ^ todo) → Ieee.Datum.rootFrom n todo root * Ieee.Datum.rootFrom n todo root ≤ n ∧ n < (Ieee.Datum.rootFrom n todo root + 1) * (Ieee.Datum.rootFrom n todo root + 1) := by
  intro todo
  induction todo with
  | zero => intro root h1 h2; exact ⟨h1, h2⟩
  | succ todo ih =>
    intro root h1 h2
    have e : (1 <<< todo : Nat) = 2 ^ todo := by rw [Nat.shiftLeft_eq, Nat.one_mul]
    unfold Ieee.Datum.rootFrom
    simp only [e]
    by_cases hl : (root + 2 ^ todo) * (root + 2 ^ todo) ≤ n
    · rw [if_pos hl]
      refine ih _ hl ?_
      rw [show root + 2 ^ todo + 2 ^ todo = root + 2 ^ (todo + 1) by rw [Nat.pow_succ]; omega]
      exact h2
    · rw [if_neg hl]
      exact ih _ h1 (by omega)
theorem root_whole (n : Nat) : ∃ w, Ieee.Datum.rootFrom n (n.log2 / 2 + 1) 0 = w ∧ w * w ≤ n ∧ n < (w + 1) * (w + 1) := by
  refine ⟨_, rfl, root_from n _ 0 (Nat.zero_le _) ?_⟩
  rw [Nat.zero_add, ← Nat.pow_add]
  exact Nat.lt_of_lt_of_le Nat.lt_log2_self (Nat.pow_le_pow_right (by decide) (by omega))
theorem lt_of_sq {a b : Nat} (h : a * a < b * b) : a < b := Nat.lt_of_not_le fun h1 => by have := Nat.mul_le_mul h1 h1; omega
theorem le_of_sq {a b : Nat} (h : a * a ≤ b * b) : a ≤ b := Nat.le_of_not_lt fun h1 => by have := Nat.mul_lt_mul_of_lt_of_lt h1 h1; omega
/-- The root of a finite float64 above 0 lies beside the exact one. -/
theorem fsqrt_num {b K : Nat} (hb : rg b < INF) (hs : fneg b = false) (h0 : un (rg b) ≠ 0) (hK : K = 1074) : ∃ r, Ieee.double.sqrt b = some r ∧ r ≤ INF ∧
    (∀ R, R ≤ INF → un R * un R ≤ un (rg b) * 2 ^ K → R ≤ r) ∧ (∀ R, un (rg b) * 2 ^ K ≤ un R * un R → r ≤ R) := by
  obtain ⟨m, p, e1, h1, hm53⟩ := read_mag hb
  have hm : m ≠ 0 := by
    rintro rfl
    rw [Nat.zero_mul] at h1
    exact h0 h1.symm
  unfold Ieee.Format.sqrt
  rw [e1, hs]
  have hfb : 2 * (Ieee.double.fractionBits + 2) = 108 := rfl
  simp only [Ieee.Datum.root, if_neg hm, hfb, Bool.false_eq_true, if_false, Option.map_some]
  have hlp : Ieee.double.leastPlace = -1074 := by decide
  have hmlog : m.log2 < 53 := (Nat.log2_lt hm).2 (show m < 2 ^ 53 from hm53)
  obtain ⟨o, ho⟩ : ∃ o, 108 - m.log2 = o := ⟨_, rfl⟩
  rw [ho]
  obtain ⟨par, hpar⟩ : ∃ par, ((Ieee.double.leastPlace + (p : Int) - (o : Int)) % 2).toNat = par := ⟨_, rfl⟩
  rw [hpar]
  obtain ⟨more, hmore⟩ : ∃ more, o + par = more := ⟨_, rfl⟩
  rw [hmore, Nat.shiftLeft_eq]
  obtain ⟨N, hN⟩ : ∃ N, m * 2 ^ more = N := ⟨_, rfl⟩
  rw [hN]
  obtain ⟨w, hw, w1, w2⟩ := root_whole N
  rw [hw]
  obtain ⟨t, ht⟩ : ∃ t, (w * w != N).toNat = t := ⟨_, rfl⟩
  rw [ht]
  have htc : (t = 0 ∧ w * w = N) ∨ (t = 1 ∧ w * w < N) := by
    by_cases h : w * w = N
    · left; refine ⟨?_, h⟩; rw [← ht]; simp [h]
    · right; refine ⟨?_, by omega⟩; rw [← ht]; simp [h]
  have hbig : 9007199254740992 ≤ w := by
    have a1 : 2 ^ m.log2 ≤ m := Nat.log2_self_le hm
    have a3 : 2 ^ 108 ≤ N := by
      rw [← hN]
      refine Nat.le_trans (Nat.pow_le_pow_right (by decide) (show 108 ≤ m.log2 + more by omega)) ?_
      rw [Nat.pow_add]
      exact Nat.mul_le_mul_right _ a1
    have a4 : 18014398509481984 * 18014398509481984 < (w + 1) * (w + 1) := Nat.lt_of_le_of_lt a3 w2
    have := lt_of_sq a4
    omega
  obtain ⟨e, he⟩ : ∃ e : Int, (Ieee.double.leastPlace + (p : Int) - (more : Int)) / 2 = e := ⟨_, rfl⟩
  rw [he]
  obtain ⟨k0, hk0⟩ : ∃ k0 : Nat, (e + 1073).toNat = k0 := ⟨_, rfl⟩
  obtain ⟨d, hd⟩ : ∃ d : Nat, (-(e + 1073)).toNat = d := ⟨_, rfl⟩
  have hpl : e - 1 = Ieee.double.leastPlace + (k0 : Int) - (d : Int) := by omega
  have hbal : p + K + 2 * d = more + 2 + 2 * k0 := by omega
  rw [hpl]
  obtain ⟨r, hr, er, hup, hdn⟩ := nearest_gen false (T := 2 * w + t) (k0 := k0) (d := d) (by omega)
  refine ⟨r, ?_, hr, ?_, ?_⟩
  · show some (Ieee.double.nearest false _ _) = _
    rw [er]
    rfl
  all_goals
    obtain ⟨Z, hZ⟩ : ∃ Z, 2 ^ k0 = Z := ⟨_, rfl⟩
    have hZ0 : 0 < Z := by rw [← hZ]; exact Nat.two_pow_pos _
    obtain ⟨Y, hY⟩ : ∃ Y, 2 ^ d = Y := ⟨_, rfl⟩
    have hY0 : 0 < Y := by rw [← hY]; exact Nat.two_pow_pos _
    have key : un (rg b) * 2 ^ K * (Y * Y) = 4 * N * (Z * Z) := by
      rw [← h1, ← hN, ← hY, ← hZ]
      have e1 : m * 2 ^ p * 2 ^ K * (2 ^ d * 2 ^ d) = m * 2 ^ (p + K + 2 * d) := by
        rw [show p + K + 2 * d = p + K + (d + d) by omega, Nat.pow_add, Nat.pow_add, Nat.pow_add]; grind
      have e2 : 4 * (m * 2 ^ more) * (2 ^ k0 * 2 ^ k0) = m * 2 ^ (more + 2 + 2 * k0) := by
        rw [show more + 2 + 2 * k0 = more + 2 + (k0 + k0) by omega, Nat.pow_add, Nat.pow_add, Nat.pow_add]; grind
      rw [e1, e2, hbal]
    rw [hZ, hY] at hup hdn
  · intro R hR h
    refine hup R hR ?_
    have h2 := Nat.mul_le_mul_right (Y * Y) h
    rw [key] at h2
    obtain ⟨a, ha⟩ : ∃ a, un R * Y = a := ⟨_, rfl⟩
    rw [show un R * un R * (Y * Y) = a * a by rw [← ha]; grind] at h2
    rw [ha]
    rcases htc with ⟨rfl, hwN⟩ | ⟨rfl, hwN⟩
    · refine le_of_sq (Nat.le_trans h2 (Nat.le_of_eq ?_))
      rw [← hwN]; grind
    · rcases Nat.lt_or_ge (2 * w * Z) a with h5 | h5
      · exfalso
        rw [← ha, ← hZ, ← hY] at h5
        have h6 := coarse hbig h5
        rw [hZ, hY, ha] at h6
        have h7 := Nat.mul_le_mul h6 h6
        have h8 : 4 * N * (Z * Z) < (2 * w + 2) * Z * ((2 * w + 2) * Z) := by
          rw [show (2 * w + 2) * Z * ((2 * w + 2) * Z) = 4 * ((w + 1) * (w + 1)) * (Z * Z) by grind]
          exact Nat.mul_lt_mul_of_pos_right (by omega) (Nat.mul_pos hZ0 hZ0)
        omega
      · exact Nat.le_trans h5 (Nat.mul_le_mul_right _ (by omega))
  · intro R h
    refine hdn R ?_
    have h2 := Nat.mul_le_mul_right (Y * Y) h
    rw [key] at h2
    obtain ⟨a, ha⟩ : ∃ a, un R * Y = a := ⟨_, rfl⟩
    rw [show un R * un R * (Y * Y) = a * a by rw [← ha]; grind] at h2
    rw [ha]
    rcases htc with ⟨rfl, hwN⟩ | ⟨rfl, hwN⟩
    · refine le_of_sq (Nat.le_trans (Nat.le_of_eq ?_) h2)
      rw [← hwN]; grind
    · have h5 : 2 * w * Z < a := by
        refine lt_of_sq (Nat.lt_of_lt_of_le ?_ h2)
        rw [show 2 * w * Z * (2 * w * Z) = 4 * (w * w) * (Z * Z) by grind]
        exact Nat.mul_lt_mul_of_pos_right (by omega) (Nat.mul_pos hZ0 hZ0)
      rw [← ha, ← hZ, ← hY] at h5
      have h6 := coarse hbig h5
      rw [hZ, hY, ha] at h6
      exact Nat.le_trans (Nat.mul_le_mul_right _ (by omega)) h6
end Go.Proofs.YtjmipbljoblnnaaDoor

namespace Go.Proofs.YtjmipbljoblnnaaDoor

/-- A float64 below one that is next to S / D lies below S / D, too. -/
theorem near_under {x S D y} (h : NearR x S D) (hy : y < 18446744073709551616) (hr : rg y ≤ INF) (hlt : fv y < fv x) : fv y * (D : Int) ≤ S := by
  rcases Int.lt_or_le S (fv y * (D : Int)) with h1 | h1
  · have := h.down y hy hr (Int.le_of_lt h1)
    omega
  · exact h1
theorem near_over {x S D y} (h : NearR x S D) (hy : y < 18446744073709551616) (hr : rg y ≤ INF) (hlt : fv x < fv y) : S ≤ fv y * (D : Int) := by
  rcases Int.lt_or_le (fv y * (D : Int)) S with h1 | h1
  · have := h.up y hy hr (Int.le_of_lt h1)
    omega
  · exact h1
theorem near_under1 {x : Nat} {S : Int} {y : Nat} (h : NearTo x S) (hy : y < 18446744073709551616) (hr : rg y ≤ INF) (hlt : fv y < fv x) : fv y ≤ S := by
  rcases Int.lt_or_le S (fv y) with h1 | h1
  · have := h.down y hy hr (Int.le_of_lt h1)
    omega
  · exact h1
theorem near_over1 {x : Nat} {S : Int} {y : Nat} (h : NearTo x S) (hy : y < 18446744073709551616) (hr : rg y ≤ INF) (hlt : fv x < fv y) : S ≤ fv y := by
  rcases Int.lt_or_le (fv y) S with h1 | h1
  · have := h.up y hy hr (Int.le_of_lt h1)
    omega
  · exact h1
/-- The product of two numbers lies between the products of the corners. -/
theorem mul_corners_low {a b c d X Y L : Int} (hX : a ≤ X ∧ X ≤ b) (hY : c ≤ Y ∧ Y ≤ d) (h1 : L ≤ a * c) (h2 : L ≤ a * d) (h3 : L ≤ b * c) (h4 : L ≤ b * d) : L ≤ X * Y := by
  have line : ∀ z : Int, L ≤ a * z → L ≤ b * z → L ≤ X * z := by
    intro z ha hb
    rcases Int.le_total 0 z with hz | hz
    · have := Int.mul_le_mul_of_nonneg_right hX.1 hz; omega
    · have := Int.mul_le_mul_of_nonpos_right hX.2 hz; omega
  have hc := line c h1 h3
  have hd := line d h2 h4
  rcases Int.le_total 0 X with hx | hx
  · have := Int.mul_le_mul_of_nonneg_left hY.1 hx; omega
  · have := Int.mul_le_mul_of_nonpos_left hx hY.2; omega
theorem mul_corners_high {a b c d X Y H : Int} (hX : a ≤ X ∧ X ≤ b) (hY : c ≤ Y ∧ Y ≤ d) (h1 : a * c ≤ H) (h2 : a * d ≤ H) (h3 : b * c ≤ H) (h4 : b * d ≤ H) : X * Y ≤ H := by
  have h := mul_corners_low (a := -b) (b := -a) (X := -X) (L := -H) ⟨Int.neg_le_neg hX.2, Int.neg_le_neg hX.1⟩ hY (by rw [Int.neg_mul]; omega) (by rw [Int.neg_mul]; omega) (by rw [Int.neg_mul]; omega) (by rw [Int.neg_mul]; omega)
  rw [Int.neg_mul] at h
  omega
/-- The quotient of a number by one above 0 lies between the quotients of the corners (T: a power of two, the places). -/
theorem quo_corners_low {a c d X Y L T : Int} (hT : 0 ≤ T) (hX : a ≤ X) (hY : c ≤ Y ∧ Y ≤ d) (h1 : L * c ≤ a * T) (h2 : L * d ≤ a * T) : L * Y ≤ X * T := by
  have hx := Int.mul_le_mul_of_nonneg_right hX hT
  rcases Int.le_total 0 L with hl | hl
  · have := Int.mul_le_mul_of_nonneg_left hY.2 hl; omega
  · have := Int.mul_le_mul_of_nonpos_left hl hY.1; omega
theorem quo_corners_high {b c d X Y H T : Int} (hT : 0 ≤ T) (hX : X ≤ b) (hY : c ≤ Y ∧ Y ≤ d) (h1 : b * T ≤ H * c) (h2 : b * T ≤ H * d) : X * T ≤ H * Y := by
  have hx := Int.mul_le_mul_of_nonneg_right hX hT
  rcases Int.le_total 0 H with hl | hl
  · have := Int.mul_le_mul_of_nonneg_left hY.1 hl; omega
  · have := Int.mul_le_mul_of_nonpos_left hl hY.2; omega
end Go.Proofs.YtjmipbljoblnnaaDoor

namespace Go.Proofs.YtjmipbljoblnnaaDoor
open Go.RowKit

theorem signed_un_not {b m p : Nat} (h : m * 2 ^ p = un (rg b)) : Ieee.signed (!fneg b) m p = -fv b := by
  rw [← signed_un h]
  unfold Ieee.signed
  cases fneg b <;> simp
theorem fsubr_num {b c : Nat} (hb : rg b < INF) (hc : rg c < INF) : ∃ x, floatBits .sub .f64 b c = some x ∧ NearTo x (fv b - fv c) := by
  obtain ⟨m, p, e1, h1⟩ := read_num hb
  obtain ⟨n, q, f1, g1⟩ := read_num hc
  have hI : INF = 9218868437227405312 := rfl
  show ∃ x, Ieee.double.sub b c = some x ∧ _
  unfold Ieee.Format.sub
  rw [e1, f1]
  simp only [Ieee.Datum.opposite, Ieee.Datum.sum, Option.map_some]
  obtain ⟨k, hk⟩ : ∃ k, min p q = k := ⟨_, rfl⟩
  have hbase : min (Ieee.double.leastPlace + (p : Int)) (Ieee.double.leastPlace + (q : Int)) = Ieee.double.leastPlace + (k : Int) := by omega
  rw [hbase]
  obtain ⟨i, hi⟩ : ∃ i, p - k = i := ⟨_, rfl⟩
  obtain ⟨j, hj⟩ : ∃ j, q - k = j := ⟨_, rfl⟩
  have z1 : (Ieee.double.leastPlace + (p : Int) - (Ieee.double.leastPlace + (k : Int))).toNat = i := by omega
  have z2 : (Ieee.double.leastPlace + (q : Int) - (Ieee.double.leastPlace + (k : Int))).toNat = j := by omega
  rw [z1, z2]
  have s1 : Ieee.signed (fneg b) m i * 2 ^ k = fv b := by rw [← signed_scale, show i + k = p by omega]; exact signed_un h1
  have s2 : Ieee.signed (!fneg c) n j * 2 ^ k = -fv c := by rw [← signed_scale, show j + k = q by omega]; exact signed_un_not g1
  obtain ⟨D, hD⟩ : ∃ D, Ieee.signed (fneg b) m i + Ieee.signed (!fneg c) n j = D := ⟨_, rfl⟩
  have hS : fv b - fv c = D * 2 ^ k := by rw [Int.sub_eq_add_neg, ← s1, ← s2, ← Int.add_mul, hD]
  rw [hD, hS]
  have hp := pow2_pos k
  clear s1 s2 hD hS
  have bigger : ∀ y, y < 18446744073709551616 → rg y ≤ INF → (fneg y = false ∧ fv y = (un (rg y) : Int)) ∨ (fneg y = true ∧ fv y = -(un (rg y) : Int)) := by
    intro y _ _
    rw [fv_def]
    cases fneg y
    · exact Or.inl ⟨rfl, rfl⟩
    · exact Or.inr ⟨rfl, rfl⟩
  by_cases hD0 : D = 0
  · subst hD0
    rw [if_pos rfl, Int.zero_mul]
    refine ⟨_, rfl, ?_⟩
    show NearTo (Ieee.double.nearest _ 0 _) 0
    unfold Ieee.Format.nearest
    rw [if_pos rfl]
    have hz : ∀ s, Ieee.double.word s 0 < 18446744073709551616 ∧ rg (Ieee.double.word s 0) ≤ INF ∧ fv (Ieee.double.word s 0) = 0 := by
      intro s; cases s <;> decide
    obtain ⟨a1, a2, a3⟩ := hz (fneg b && !fneg c)
    exact ⟨a1, a2, fun y _ _ h => by rw [a3]; exact h, fun y _ _ h => by rw [a3]; exact h⟩
  · rw [if_neg hD0]
    refine ⟨_, rfl, ?_⟩
    show NearTo (Ieee.double.nearest (decide (D < 0)) D.natAbs _) _
    obtain ⟨r, hr, e, hup, hdn⟩ := nearest_at (decide (D < 0)) (T := D.natAbs) (k0 := k) (by omega)
    rw [e]
    have hcast : ((D.natAbs * 2 ^ k : Nat) : Int) = (D.natAbs : Int) * 2 ^ k := cast_pow2 _ _
    rcases Int.lt_or_le D 0 with hneg | hpos
    · have hd : decide (D < 0) = true := by simp [hneg]
      rw [hd]
      have hw : Ieee.double.word true r = 9223372036854775808 + r := rfl
      rw [hw]
      have hx := fv_neg (r := r) (by omega)
      have hxr := (rg_neg (r := r) (by omega)).1
      have hSn : D * 2 ^ k = -((D.natAbs * 2 ^ k : Nat) : Int) := by
        rw [hcast, show (D.natAbs : Int) = -D by omega, Int.neg_mul, Int.neg_neg]
      refine ⟨by omega, by rw [hxr]; exact hr, fun y hy hyr h => ?_, fun y hy hyr h => ?_⟩
      · rw [hx]
        rcases bigger y hy hyr with ⟨-, b2⟩ | ⟨-, b2⟩
        · have hpos2 : 0 < D.natAbs * 2 ^ k := Nat.mul_pos (by omega) (Nat.two_pow_pos k)
          omega
        · have := un_le (hdn (rg y) (by omega))
          omega
      · rw [hx]
        rcases bigger y hy hyr with ⟨-, b2⟩ | ⟨-, b2⟩
        · omega
        · have := un_le (hup (rg y) hyr (by omega))
          omega
    · have hd : decide (D < 0) = false := by simp; omega
      rw [hd]
      have hw : Ieee.double.word false r = r := rfl
      rw [hw]
      have hx := fv_pos (r := r) (by omega)
      have hxr := (rg_pos (r := r) (by omega)).1
      have hSn : D * 2 ^ k = ((D.natAbs * 2 ^ k : Nat) : Int) := by
        rw [hcast, show (D.natAbs : Int) = D by omega]
      refine ⟨by omega, by rw [hxr]; exact hr, fun y hy hyr h => ?_, fun y hy hyr h => ?_⟩
      · rw [hx]
        rcases bigger y hy hyr with ⟨-, b2⟩ | ⟨-, b2⟩
        · have := un_le (hup (rg y) hyr (by omega))
          omega
        · omega
      · rw [hx]
        rcases bigger y hy hyr with ⟨-, b2⟩ | ⟨-, b2⟩
        · have := un_le (hdn (rg y) (by omega))
          omega
        · have hpos2 : 0 < D.natAbs * 2 ^ k := Nat.mul_pos (by omega) (Nat.two_pow_pos k)
          omega
end Go.Proofs.YtjmipbljoblnnaaDoor
