/-
  Contract of whole.Int.Mul: any number of integers.
-/
import Derived.Test.YtbieldebkfkpkaaDoorProduct
namespace Go.Proofs.YtbieldebkfkpkaaDoor
open Go.RowKit

/-- The sign of a product. -/
def negf (p : Bool) (l : Els) : Bool := l.foldl (fun b e => !(b == e.1)) p
def zprod (l : Els) : Int := prodl (l.map fun e => sg e.1 e.2.2)
theorem sg_mul (p b : Bool) (A N : Int) : sg (!(p == b)) (A * N) = sg p A * sg b N := by
  cases p <;> cases b <;> simp [sg, Int.neg_mul, Int.mul_neg]
theorem negf_prod (p : Bool) (A : Int) (l : Els) : sg (negf p l) (A * prodl (l.map (·.2.2))) = sg p A * zprod l := by
  induction l generalizing p A with
  | nil => simp [negf, zprod, prodl]
  | cons e l ih =>
    have h := ih (!(p == e.1)) (A * e.2.2)
    rw [sg_mul, Int.mul_assoc, Int.mul_assoc] at h
    simp only [zprod, List.map_cons, prodl] at h ⊢
    exact h
theorem negf_snoc {p : Bool} {l : Els} {k : Nat} (hk : k < l.length) {b : Bool} {v : Value} {N : Int} (he : l.getD k (false, undef, 0) = (b, v, N)) : negf p (l.take (k + 1)) = !(negf p (l.take k) == b) := by
  rw [take_snoc hk, he, negf, List.foldl_append]; rfl
theorem mags_snoc {l : Els} {k : Nat} (hk : k < l.length) {b : Bool} {v : Value} {N : Int} (he : l.getD k (false, undef, 0) = (b, v, N)) : (l.take (k + 1)).map (·.2.1) = (l.take k).map (·.2.1) ++ [v] := by
  rw [take_snoc hk, he, List.map_append]; rfl

set_option maxRecDepth 100000 in
set_option maxHeartbeats 4000000 in
theorem mulw_num {w : World} (p : Bool) {a : Option Addr} {n c : Nat} {A : Int} {m : Nat} (hA : Num w (.slice a n c) A m) (b o nl cl : Nat) (els : Els) (hnl : nl = els.length) (hnl0 : 1 ≤ nl)
    (hrd : RdI w (some ⟨b, o, none⟩) els) (hel : ∀ e ∈ els, EOk w m e) (hlen : nl ≤ 100) (hm : m ≤ 90) :
    Calls Tryd.prog 43 #[.agg #[.bool p, .slice a n c], .slice (some ⟨b, o, none⟩) nl cl] w fun e w' => RetW w (sg p A * zprod els) ((1 + nl) * m) e w' := by
  obtain ⟨w0, hw0⟩ : ∃ w0, w0 = (((w.alloc (.cells #[.bool p, .slice a n c] 45)).alloc (.cells #[.bool false, .slice none 0 0] 45)).alloc (.cells #[.slice a n c] 28)).drew := ⟨_, rfl⟩
  have hb0 := below_alloc w (.cells #[.bool p, .slice a n c] 45)
  have hb1 := hb0.alloc (Nat.le_of_lt (by simp)) (.cells #[.bool false, .slice none 0 0] 45)
  have hb2 := hb1.alloc (Nat.le_of_lt (by simp; omega)) (.cells #[.slice a n c] 28)
  have hbw0 : Below w.heap.size w w0 := by rw [hw0]; exact bdn hb2 1
  have hsz0 : w0.heap.size = w.heap.size + 3 := by rw [hw0]; show (((w.alloc _).alloc _).alloc _).heap.size = _; simp
  have s0 : w0.heap[w.heap.size + 1]? = some (.cells #[.bool false, .slice none 0 0] 45 (0, 0)) := by
    have h := slot_kept (heap_alloc2_new w (.cells #[.bool p, .slice a n c] 45) (.cells #[.bool false, .slice none 0 0] 45)) (below_alloc _ (.cells #[.slice a n c] 28))
    rw [hw0]
    exact h
  have hrow : OwV (w.heap.size + 2) w0 (.slice (some ⟨w.heap.size + 2, 0, none⟩) 1 1) [.slice a n c] := by
    rw [hw0]
    exact ⟨rfl, Or.inr ⟨w.heap.size + 2, 1, #[.slice a n c], rfl, Nat.le_refl _, heap_alloc3_new w _ _ _, Nat.le_refl _, by decide, rfl, rfl⟩⟩
  have hnlz : ((nl : Int) == 0) = false := by simp; omega
  have hnlI : (nl : Int) ≤ 100 := by omega
  have HNL := Lib.hid hnl
  have HEL := Lib.hid hel
  have HRD := Lib.hid hrd
  have HA := Lib.hid hA
  have HS0 := Lib.hid hsz0
  clear hnl hb0 hb1 hb2 hel hrd hA hsz0
  go_enter Tryd.func43, Tryd.ntmps43
  go_wp2_with fail
  go_region
  go_wp2_with fail
  rw [← hw0]
  clear hw0
  go_loopw [5, 6, 24] (fun vn vm ii wr => ∃ k : Nat, k ≤ nl ∧ ii = .int .i64 k ∧ vn = .bool (negf p (els.take k)) ∧ OwV (w.heap.size + 2) wr vm (.slice a n c :: (els.take k).map (·.2.1)) ∧ Below (w.heap.size + 2) w0 wr)
    (fun _ _ ii _ => nl - (intOf ii).toNat)
  case atStart => exact ⟨0, Nat.zero_le _, rfl, rfl, hrow, Below.refl _ _⟩
  case round =>
    obtain ⟨k, hk, rfl, rfl, hO, hbl⟩ := hrel
    have hS0 := HS0.out
    have hbw : Below w.heap.size w wr := hbw0.trans (hbl.mono (by omega))
    have hsr := hbl.size
    by_cases hlt : k < nl
    · have hkE : k < els.length := by rw [← HNL.out]; exact hlt
      obtain ⟨bb, v, M, he⟩ : ∃ b v M, els.getD k (false, undef, 0) = (b, v, M) := ⟨_, _, _, rfl⟩
      have hmem : (bb, v, M) ∈ els := by
        rw [← he, List.getD_eq_getElem?_getD, List.getElem?_eq_getElem hkE]; exact List.getElem_mem hkE
      obtain ⟨ak, nk, ck, hv, hNk⟩ := HEL.out _ hmem
      simp only at hv
      subst hv
      obtain ⟨q0, q1⟩ := cel_get hkE
      rw [he] at q0 q1
      have c0 := HRD.out _ rfl _ _ q0
      have c1 := HRD.out _ rfl _ _ q1
      rw [addr_add_none] at c0 c1
      have d0 : wr.cell? ⟨b, o + k * 2, none⟩ = some (.bool bb) := by rw [hbw.cell (p := ⟨b, o + k * 2, none⟩) (World.block_lt_of_cell? (a := ⟨b, o + k * 2, none⟩) _ c0)]; exact c0
      have d1 : wr.cell? ⟨b, o + k * 2 + 1, none⟩ = some (.slice ak nk ck) := by rw [show o + k * 2 + 1 = o + (k * 2 + 1) by omega, hbw.cell (p := ⟨b, o + (k * 2 + 1), none⟩) (World.block_lt_of_cell? (a := ⟨b, o + (k * 2 + 1), none⟩) _ c1)]; exact c1
      have hns := negf_snoc (p := p) hkE he
      have hms := mags_snoc hkE he
      have hone : ∀ u ∈ [Value.slice ak nk ck], u.oneCell' = true := by intro u hu; rw [List.mem_singleton] at hu; subst hu; rfl
      have hml : ((Value.slice a n c :: (els.take k).map (·.2.1))).length + 1 ≤ 4294967296 := by
        rw [List.length_cons, List.length_map, List.length_take]; omega
      obtain ⟨ng, hng⟩ : ∃ ng, negf p (els.take k) = ng := ⟨_, rfl⟩
      obtain ⟨ng2, hng2⟩ : ∃ ng2, (!(ng == bb)) = ng2 := ⟨_, rfl⟩
      rw [hng] at hns
      have HNS := Lib.hid hns
      have HMS := Lib.hid hms
      have HN2 := Lib.hid hng2
      clear q0 q1 c0 c1 hns hms he hmem hNk
      rw [hng]
      clear hng
      go_wp2_with (at_builtin; refine wpList_append_vals _ rfl (.tmp 32) (.tmp 35) 89 rfl Tryd.underlying89 info_nat (w.heap.size + 2) u6 (.slice a n c :: (els.take k).map (·.2.1)) rfl ((hO.alloc (.cells #[.bool bb, .slice ak nk ck] 45)).alloc _) ⟨wr.heap.size + 1, 0, none⟩ 1 1 [.slice ak nk ck] rfl rfl (newv1_at _ _ _ _ (by simp)) hone hml (by simp; omega) ?_; intro vm2 w2 hOm2 hg2 hat2)
      have hbl' := hbl.alloc (by omega) (.cells #[.bool bb, .slice ak nk ck] 45)
      have hO' := hO.alloc (.cells #[.bool bb, .slice ak nk ck] 45)
      have hb12 : Below (w.heap.size + 2) w0 w2 := below_app hbl' hO' (Nat.le_refl _) (by simp; omega) hg2
      go_roundw
      case rel =>
        refine ⟨k + 1, by omega, by go_num, ?_, by rw [HMS.out]; exact hOm2, hb12⟩
        rw [HNS.out, HN2.out]
      case measure => simp [intOf]; omega
    · have hkN : k = nl := by omega
      subst hkN
      have hall : els.take k = els := List.take_of_length_le (by rw [← HNL.out]; exact Nat.le_refl _)
      rw [hall] at hO ⊢
      have sr : wr.heap[w.heap.size + 1]? = some (.cells #[.bool false, .slice none 0 0] 45 (0, 0)) := by rw [hbl.block _ (by omega)]; exact s0
      have hlen2 : (Value.slice a n c :: els.map (·.2.1)).length = 1 + k := by rw [List.length_cons, List.length_map, ← HNL.out]; omega
      have hnums : Nums wr m (.slice a n c :: els.map (·.2.1)) (A :: els.map (·.2.2)) := by
        refine ⟨by simp, fun j hj => ?_⟩
        cases j with
        | zero => exact ⟨a, n, c, rfl, HA.out.below hbw⟩
        | succ j =>
          have hj2 : j < els.length := by simpa using hj
          obtain ⟨a', n', c', h1, h2⟩ := HEL.out _ (List.getElem_mem hj2)
          refine ⟨a', n', c', ?_, ?_⟩
          · rw [List.getD_cons_succ, List.getD_eq_getElem?_getD, List.getElem?_map, List.getElem?_eq_getElem hj2]
            exact h1
          · rw [List.getD_cons_succ, List.getD_eq_getElem?_getD, List.getElem?_map, List.getElem?_eq_getElem hj2]
            exact h2.below hbw
      obtain ⟨aM, cM, hve, hM1, hM2, hM3⟩ := hO.form
      rw [hlen2] at hve hM1
      subst hve
      have HPR := Lib.hid (product_num (1 + k) aM cM _ _ m wr hlen2 (by omega) (by omega) hM1 hM2 hM3 hnums hm)
      have HZ : Hid (sg (negf p els) (prodl (A :: els.map (·.2.2))) = sg p A * zprod els) := by show _ = _; rw [prodl]; exact negf_prod p A els
      obtain ⟨ng, hng⟩ : ∃ ng, negf p els = ng := ⟨_, rfl⟩
      rw [hng] at HZ ⊢
      clear hng hall hlen2 hnums hM1 hM2 hM3 hO
      go_wp2_with fail
      refine HPR.out.mono ?_
      rintro e w2 ⟨aX, nX, cX, rfl, -, hX, hb2⟩
      have hX2 := hX (by omega)
      have s2 := slot_kept sr hb2
      go_wp2_with fail
      refine (signed_num ng hX2).mono ?_
      rintro e w3 ⟨neg', rfl, hs, hz, hb3⟩
      have s3 := slot_kept s2 hb3
      obtain ⟨k0, k1, f0, f1⟩ := slot2 s3
      have hb4 := hbw.trans (hb2.mono hbw.size)
      replace hb4 := hb4.trans (hb3.mono hb4.size)
      obtain ⟨hend, hN, hfin⟩ := slot_end2 (neg' := neg') s3 hb4 (Nat.le_add_right _ _) (hX2.below hb3) (by omega)
      go_wp2_with fail
      refine bodyPost_ret (results_cell_row rfl _ _ (w.heap.size + 1) 45 _ (0, 0) _ rfl hend Tryd.underlying45 rfl (by kernel_rfl)) rfl ?_
      exact ⟨neg', _, _, _, _, rfl, hN, by rw [hs, HZ.out], hz, hfin⟩
end Go.Proofs.YtbieldebkfkpkaaDoor
