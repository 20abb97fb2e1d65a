/-
  Contracts of whole.Int.Text, whole.Int.Shl and the reference's Digits.
  Rows of one integer as the arguments of Add and Mul, cells of a new row, and what new memory leaves of a cell.
-/
import Derived.Test.YtbieldebkfkpkaaDoorWholeM
import Derived.Test.YtbieldebkfkpkaaDoorWhole4
import Derived.Test.YtbieldebkfkpkaaDoorRefText
namespace Go.Proofs.YtbieldebkfkpkaaDoor
open Go.RowKit


/-- The decimal text of an integer. -/
def tw (Z : Int) : ByteArray := if Z < 0 then ⟨#[45]⟩ ++ strOfNums (dec (-Z)) else strOfNums (dec Z)
theorem dec_small {N : Int} (h0 : 0 ≤ N) (hN : N < B64 ^ 1) : (strOfNums (dec N)).size ≤ 21 := by
  rw [dec_size]
  have e : B64 ^ 1 < 10 ^ 20 := by decide
  exact dec_len h0 (by omega)

set_option maxRecDepth 100000 in
set_option maxHeartbeats 1000000 in
theorem textw_num {w : World} (neg : Bool) {a : Option Addr} {n c : Nat} {N : Int} (h : Num w (.slice a n c) N 1) :
    Calls Tryd.prog 45 #[.agg #[.bool neg, .slice a n c]] w fun e w' => RetV w (.string (tw (sg neg N))) e w' := by
  have hb0 := below_alloc w (.cells #[.bool neg, .slice a n c] 45)
  have s0 := heap_alloc_new w (.cells #[.bool neg, .slice a n c] 45)
  have hn0 := h.nonneg
  have HT := fun w1 (hx : Below w.heap.size w w1) => text_any (h.below hx) (by decide) (by decide)
  have HSG := Lib.hid (sign_num neg (h.below hb0) (by decide))
  have hsz := dec_small hn0 h.lt
  rcases Int.lt_or_le (sg neg N) 0 with hz | hz
  · have hc : cmpI (sg neg N) 0 = -1 := cmpI_lt hz
    have hneg : neg = true := by
      cases neg with
      | true => rfl
      | false => rw [sg_false] at hz; omega
    have htw : tw (sg neg N) = ⟨#[45]⟩ ++ strOfNums (dec N) := by rw [tw, if_pos hz, hneg, sg_true, Int.neg_neg]
    obtain ⟨T, hT⟩ : ∃ T, T = strOfNums (dec N) := ⟨_, rfl⟩
    rw [← hT] at HT htw hsz
    rw [htw]
    rw [hc] at HSG
    clear hT hz hc htw hneg h
    go_enter Tryd.func45, Tryd.ntmps45
    go_wp2_with fail
    refine HSG.out.mono ?_
    rintro e w1 ⟨rfl, hb1⟩
    obtain ⟨k0, k1, f0, f1⟩ := slot2 (slot_kept s0 hb1)
    have hbw := hb0.trans (hb1.mono hb0.size)
    go_wp2_with fail
    refine (HT _ hbw).mono ?_
    rintro e w2 ⟨rfl, hb2⟩
    go_wp2_with fail
    go_ret
    exact ⟨rfl, hbw.trans (hb2.mono hbw.size)⟩
  · obtain ⟨s, hs⟩ : ∃ s, s = cmpI (sg neg N) 0 := ⟨_, rfl⟩
    have hs0 : ¬ s < 0 := by
      rw [hs]
      rcases Int.lt_or_eq_of_le hz with h | h
      · rw [cmpI_gt h]; decide
      · rw [cmpI_eq h.symm]; decide
    have hval : sg neg N = N := by
      cases neg with
      | true => rw [sg_true] at hz ⊢; omega
      | false => rfl
    have htw : tw (sg neg N) = strOfNums (dec N) := by rw [tw, if_neg (by omega), hval]
    obtain ⟨T, hT⟩ : ∃ T, T = strOfNums (dec N) := ⟨_, rfl⟩
    rw [← hT] at HT htw hsz
    rw [htw]
    rw [← hs] at HSG
    clear hT hz hs htw hval h
    go_enter Tryd.func45, Tryd.ntmps45
    go_wp2_with fail
    refine HSG.out.mono ?_
    rintro e w1 ⟨rfl, hb1⟩
    obtain ⟨k0, k1, f0, f1⟩ := slot2 (slot_kept s0 hb1)
    have hbw := hb0.trans (hb1.mono hb0.size)
    go_wp2_with fail
    refine (HT _ hbw).mono ?_
    rintro e w2 ⟨rfl, hb2⟩
    go_wp2_with fail
    go_ret
    exact ⟨rfl, hbw.trans (hb2.mono hbw.size)⟩

/-- The reference's Text of a small number. -/
theorem rtext_num {w : World} {a : Option Addr} {n c : Nat} {l : List Int} (hn : n = l.length) (h1 : n ≤ c) (h2 : c ≤ 9223372036854775807) (h : Rd w a l) (hl : Can B32 l) (hN : vb B32 l < B64 ^ 1) :
    Calls Tryd.prog 26 #[.slice a n c] w fun e w' => RetV w (.string (strOfNums (dec (vb B32 l)))) e w' := by
  have e : B64 ^ 1 < 10 ^ 20 := by decide
  have e2 : B64 ^ 1 = B32 ^ 2 := by decide
  have hlen := len_room32 (m := 2) hl (by omega)
  exact rtext_any a n c l 20 w hn h1 h2 h hl (by omega) (by decide) (by omega)

theorem sg_scale (neg : Bool) (N P : Int) : sg neg (N * P) = sg neg N * P := by cases neg <;> simp [sg, Int.neg_mul]

set_option maxRecDepth 100000 in
set_option maxHeartbeats 2000000 in
theorem shlw_num {w : World} (neg : Bool) {a : Option Addr} {n c : Nat} {N : Int} {m p : Nat} (k : Nat) (h : Num w (.slice a n c) N m) (hk : k ≤ 16777216) (hp : m + k / 64 + 1 ≤ p) (hm : m ≤ 1000) :
    Calls Tryd.prog 49 #[.agg #[.bool neg, .slice a n c], .int .i64 k] w fun e w' => RetW w (sg neg N * 2 ^ k) p e w' := by
  have hb0 := below_alloc w (.cells #[.bool neg, .slice a n c] 45)
  have hb1 := hb0.alloc (Nat.le_of_lt (by simp)) (.cells #[.bool false, .slice none 0 0] 45)
  have hbw0 : Below w.heap.size w ((w.alloc (.cells #[.bool neg, .slice a n c] 45)).alloc (.cells #[.bool false, .slice none 0 0] 45)).drew := bdn hb1 1
  have s0 : ((w.alloc (.cells #[.bool neg, .slice a n c] 45)).alloc (.cells #[.bool false, .slice none 0 0] 45)).drew.heap[w.heap.size + 1]? = some (.cells #[.bool false, .slice none 0 0] 45 (0, 0)) := heap_alloc2_new w _ _
  have s1 : ((w.alloc (.cells #[.bool neg, .slice a n c] 45)).alloc (.cells #[.bool false, .slice none 0 0] 45)).drew.heap[w.heap.size]? = some (.cells #[.bool neg, .slice a n c] 45 (0, 0)) := heap_alloc2_old w _ _
  have hsz0 : ((w.alloc (.cells #[.bool neg, .slice a n c] 45)).alloc (.cells #[.bool false, .slice none 0 0] 45)).drew.heap.size = w.heap.size + 2 := by show ((w.alloc _).alloc _).heap.size = _; simp
  have hk1 : ¬ (k : Int) < 0 := by omega
  have hk2 : ¬ (16777216 : Int) < (k : Int) := by omega
  have HSH := Lib.hid (shl_num (p := p) k (h.below hbw0) hk hp (by omega))
  have HZ := Lib.hid (sg_scale neg N (2 ^ k))
  have HS := Lib.hid hsz0
  clear hsz0 h hb0 hb1
  go_enter Tryd.func49, Tryd.ntmps49
  go_wp2_with fail
  go_region_with (first
    | (go_at_call 11; refine HSH.out.mono ?_; rintro e w2 ⟨aX, nX, cX, rfl, hX, hb2⟩; have s2 := slot_kept s0 hb2; have t2 := slot_kept s1 hb2; obtain ⟨t0, t1, tf0, tf1⟩ := slot2 t2)
    | (go_at_call 78; refine (signed_num neg hX).mono ?_; rintro e w3 ⟨neg', rfl, hs, hz, hb3⟩; have s3 := slot_kept s2 hb3; obtain ⟨k0, k1, f0, f1⟩ := slot2 s3))
  all_goals
    have hS := HS.out
    have hbw := hbw0.trans (hb2.mono (by omega))
    replace hbw := hbw.trans (hb3.mono hbw.size)
    obtain ⟨hend, hN, hfin⟩ := slot_end2 (neg' := neg') s3 hbw (Nat.le_add_right _ _) (hX.below hb3) (by omega)
    go_wp2_with fail
    refine bodyPost_ret (results_cell_row rfl _ _ (w.heap.size + 1) 45 _ (0, 0) _ rfl hend Tryd.underlying45 rfl (by kernel_rfl)) rfl ?_
    exact ⟨neg', _, _, _, _, rfl, hN, by rw [hs, HZ.out], hz, hfin⟩


theorem rdi_one {w : World} {g : Nat} {q : Bool} {a : Option Addr} {n c : Nat} {B : Int} (h0 : w.cell? ⟨g, 0, none⟩ = some (.bool q)) (h1 : w.cell? ⟨g, 1, none⟩ = some (.slice a n c)) : RdI w (some ⟨g, 0, none⟩) [(q, .slice a n c, B)] := by
  intro ad had j u hu
  cases had
  match j, hu with
  | 0, hu =>
    have e : u = .bool q := by simpa [cel] using hu.symm
    rw [e]; exact h0
  | 1, hu =>
    have e : u = .slice a n c := by simpa [cel] using hu.symm
    rw [e]; exact h1
  | j + 2, hu => simp [cel] at hu

theorem mulw1_in {w : World} (p q : Bool) {a : Option Addr} {n c : Nat} {A : Int} {m : Nat} {a' : Option Addr} {n' c' : Nat} {B : Int} {g : Nat} (h0 : w.cell? ⟨g, 0, none⟩ = some (.bool q)) (h1 : w.cell? ⟨g, 1, none⟩ = some (.slice a' n' c')) (hA : Num w (.slice a n c) A m) (hB : Num w (.slice a' n' c') B m) (hm : m ≤ 90) :
    Calls Tryd.prog 43 #[.agg #[.bool p, .slice a n c], .slice (some ⟨g, 0, none⟩) 1 1] w fun e w' => RetW w (sg p A * sg q B) (2 * m) e w' := by
  refine (mulw_num p hA g 0 1 1 [(q, .slice a' n' c', B)] rfl (Nat.le_refl _) (rdi_one h0 h1) ?_ (by decide) hm).mono ?_
  · intro e he
    rw [List.mem_singleton] at he
    subst he
    exact ⟨a', n', c', rfl, hB⟩
  · intro e w' h
    simpa [zprod, prodl] using h
theorem addw1_in {w : World} (p q : Bool) {a : Option Addr} {n c : Nat} {A : Int} {m : Nat} {a' : Option Addr} {n' c' : Nat} {B : Int} {g : Nat} (h0 : w.cell? ⟨g, 0, none⟩ = some (.bool q)) (h1 : w.cell? ⟨g, 1, none⟩ = some (.slice a' n' c')) (hA : Num w (.slice a n c) A m) (hB : Num w (.slice a' n' c') B m) (hm : m ≤ 1000) :
    Calls Tryd.prog 39 #[.agg #[.bool p, .slice a n c], .slice (some ⟨g, 0, none⟩) 1 1] w fun e w' => RetW w (sg p A + sg q B) (m + 1) e w' := by
  refine (addw_num p hA (some ⟨g, 0, none⟩) 1 1 [(q, .slice a' n' c', B)] rfl (fun h => by cases h) (rdi_one h0 h1) ?_ (by simp) hm).mono ?_
  · intro e he
    rw [List.mem_singleton] at he
    subst he
    exact ⟨a', n', c', rfl, hB⟩
  · intro e w' h
    simpa [zsum] using h
theorem new_cell {w : World} {x y : Value} {t : TypeId} : (w.alloc (.cells #[x, y] t)).cell? ⟨w.heap.size, 0, none⟩ = some x ∧ (w.alloc (.cells #[x, y] t)).cell? ⟨w.heap.size, 1, none⟩ = some y := by
  constructor <;> rw [World.cell?_alloc_new] <;> rfl

theorem cell_after {w w' : World} {g j : Nat} {x : Value} (hb : Below w.heap.size w w') (h : w.cell? ⟨g, j, none⟩ = some x) : w'.cell? ⟨g, j, none⟩ = some x := by
  rw [hb.cell (p := ⟨g, j, none⟩) (World.block_lt_of_cell? (a := ⟨g, j, none⟩) _ h)]; exact h
theorem sign_square {v : Int} : cmpI (v * v) 0 = cmpI v 0 * cmpI v 0 := by
  rcases Int.lt_trichotomy v 0 with h | h | h
  · have : 0 < v * v := Int.mul_pos_of_neg_of_neg h h
    rw [cmpI_lt h, cmpI_gt this]; rfl
  · subst h; rfl
  · have : 0 < v * v := Int.mul_pos h h
    rw [cmpI_gt h, cmpI_gt this]; rfl

end Go.Proofs.YtbieldebkfkpkaaDoor
