/-
  Contract of nat.chunkPowers: 10^19 and its repeated squares.
-/
import Derived.Test.YtbieldebkfkpkaaDoorNum2
import Derived.Test.YtbieldebkfkpkaaDoorSqrt
namespace Go.Proofs.YtbieldebkfkpkaaDoor
open Go.RowKit

/-- 10^19, squared i times. -/
def pw (i : Nat) : Int := 10 ^ (19 * 2 ^ i)
theorem pw_succ (i : Nat) : pw i * pw i = pw (i + 1) := by
  unfold pw
  rw [← Int.pow_add]
  congr 1
  rw [Nat.pow_succ]; omega
theorem pw_pos (i : Nat) : 0 < pw i := Int.pow_pos (by decide)
theorem pw_ge (i : Nat) : (2 : Int) ^ i ≤ pw i := by
  unfold pw
  have h1 : (2 : Int) ^ i ≤ 10 ^ i := by
    induction i with
    | zero => decide
    | succ i ih =>
      rw [Int.pow_succ, Int.pow_succ]
      have : (0:Int) < 2 ^ i := Int.pow_pos (by decide)
      omega
  have h2 : i ≤ 19 * 2 ^ i := by have := Nat.lt_two_pow_self (n := i); omega
  exact Int.le_trans h1 (pow_le_pow (by decide) h2)

/-- A number that lies in memory, in no row that is being grown. -/
def NumX (w : World) (row : Option Nat) (v : Value) (N : Int) (m : Nat) : Prop := Num w v N m ∧ ∀ g, v.ownBlock = some g → row ≠ some g ∧ g < w.heap.size
theorem Num.grown {w w' : World} {row : Option Nat} {v : Value} {N : Int} {m : Nat} (h : Num w v N m) (hg : w.grownBy w' row) (hne : ∀ g, v.ownBlock = some g → row ≠ some g) : Num w' v N m := by
  obtain ⟨l, ⟨a, c, rfl, h1, h2, h3, h4⟩, h5, h6⟩ := h
  exact ⟨l, ⟨a, c, rfl, h1, h2, h3.grown hg (fun _ b o e => hne b (by rw [e]; rfl)), h4⟩, h5, h6⟩
theorem NumX.grown {w w' : World} {row row' : Option Nat} {v : Value} {N : Int} {m : Nat} (h : NumX w row v N m) (hg : w.grownBy w' row) (hr : row' = row ∨ row' = some w.heap.size) : NumX w' row' v N m := by
  obtain ⟨h1, h2⟩ := h
  refine ⟨h1.grown hg (fun g e => (h2 g e).1), fun g e => ⟨?_, ?_⟩⟩
  · have := h2 g e
    rcases hr with rfl | rfl
    · exact this.1
    · intro e2
      simp at e2
      omega
  · have := hg.size; have := (h2 g e).2; omega
theorem NumX.below {w w' : World} {row : Option Nat} {v : Value} {N : Int} {m : Nat} (h : NumX w row v N m) (hb : Below w.heap.size w w') : NumX w' row v N m :=
  ⟨h.1.below hb, fun g e => ⟨(h.2 g e).1, by have := hb.size; have := (h.2 g e).2; omega⟩⟩
theorem NumX.alloc {w : World} {row : Option Nat} {v : Value} {N : Int} {m : Nat} (h : NumX w row v N m) (o : Obj) : NumX (w.alloc o) row v N m := h.below (below_alloc w o)

/-- The powers in a row. -/
def PowX (w : World) (row : Option Nat) (vs : List Value) (m : Nat) : Prop := ∀ j, j < vs.length → NumX w row (vs.getD j undef) (pw j) m
/-- What nat.chunkPowers returns. -/
def RetPow (w : World) (N : Int) (m : Nat) (e : Ending) (w' : World) : Prop :=
  ∃ v vs, e = .returned v ∧ OwV w.heap.size w' v vs ∧ (∀ j, j < vs.length → Num w' (vs.getD j undef) (pw j) m) ∧ N < pw vs.length ∧ (∀ i, i + 1 = vs.length → pw i ≤ N) ∧ Below w.heap.size w w'

theorem getD_snoc {vs : List Value} {v : Value} {j : Nat} : (vs ++ [v]).getD j undef = if j < vs.length then vs.getD j undef else if j = vs.length then v else undef := by
  rw [List.getD_eq_getElem?_getD, List.getElem?_append]
  split
  · rw [List.getD_eq_getElem?_getD]
  · rename_i h
    by_cases h2 : j = vs.length
    · subst h2; simp
    · rw [if_neg h2, List.getElem?_eq_none (by simp; omega)]; rfl

theorem nb_lt_self {N : Int} : N < 2 ^ nb N := by
  rcases Int.lt_or_le 0 N with h | h
  · exact (nb_spec h).2.1
  · have := pow2_pos (nb N); omega
theorem nb_ge {N : Int} {k : Nat} (h : (2 : Int) ^ k ≤ N) : k + 1 ≤ nb N := by
  rcases Nat.lt_or_ge k (nb N) with h1 | h1
  · exact h1
  · have h2 := nb_lt_self (N := N)
    have h3 : (2 : Int) ^ nb N ≤ 2 ^ k := pow_le_pow (by decide) h1
    omega
theorem break_lt {P N : Int} (hP : 0 < P) (h : nb N + 2 ≤ 2 * nb P) : N < P * P := by
  obtain ⟨h1, _, h3⟩ := nb_spec hP
  have h4 : (2 : Int) ^ nb N ≤ 2 ^ ((nb P - 1) + (nb P - 1)) := pow_le_pow (by decide) (by omega)
  rw [Int.pow_add] at h4
  have h5 : (2 : Int) ^ (nb P - 1) * 2 ^ (nb P - 1) ≤ P * P := Int.mul_le_mul h1 h1 (Int.le_of_lt (pow2_pos _)) (by omega)
  have := nb_lt_self (N := N)
  omega

set_option maxRecDepth 100000 in
set_option maxHeartbeats 4000000 in
theorem powers_num {w : World} {u : Value} {N : Int} {m : Nat} (hA : Num w u N m) (hm : m ≤ 1000) (hm0 : 1 ≤ m) :
    Calls Tryd.prog 72 #[u] w fun e w' => RetPow w N (2 * m + 1) e w' := by
  have hN0 := hA.nonneg
  have hlt := hA.lt
  obtain ⟨t, ht⟩ : ∃ t, t = nb N := ⟨_, rfl⟩
  have htm : t ≤ 64 * m := by
    rw [ht]
    refine nb_le ?_
    rw [show (2:Int) ^ (64 * m) = B64 ^ m by rw [Int.pow_mul]; rfl]
    exact hlt
  have HB := Lib.hid (bits_num hA (by omega))
  rw [← ht] at HB
  have HT := Lib.hid ht
  have HLT := Lib.hid hlt
  clear ht hlt
  go_enter Tryd.func72, Tryd.ntmps72
  go_wp2_with fail
  refine HB.out.mono ?_
  rintro e w' ⟨rfl, rfl⟩
  go_wp2_with fail
  refine (of1_num 10000000000000000000 _ w (by decide) (by decide)).mono ?_
  rintro e w1 ⟨a1, n1, c1, rfl, h1, hb1⟩
  go_wp2_with fail
  go_loopw [3, 5] (fun vp vc wr => ∃ (vs : List Value) (aC : Option Addr) (nC cC : Nat), vc = .slice aC nC cC ∧ OwV w1.heap.size wr vp vs ∧ NumX wr vp.ownBlock (.slice aC nC cC) (pw vs.length) (2 * m + 1) ∧ PowX wr vp.ownBlock vs (2 * m + 1) ∧ Below w1.heap.size w1 wr ∧ Hid (vs.length ≤ t) ∧ Hid (∀ i, i + 1 = vs.length → pw i ≤ N))
    (fun vp _ wr => t + 1 - (match vp with | .slice _ n _ => n | _ => 0))
  case atStart =>
    refine ⟨[], a1, n1, c1, rfl, OwV.nil _ _, ⟨h1.num.mono (by omega), fun g e => ⟨by simp [Value.ownBlock], (h1.lt g e).2⟩⟩, fun j hj => by simp at hj, Below.refl _ _, Nat.zero_le _, fun i hi => by simp at hi⟩
  case round =>
    obtain ⟨vs, aC, nC, cC, rfl, hO, hX, hP, hbl, HLEN, HLE⟩ := hrel
    have hAw : Num wr u N m := (hA.below hb1).below hbl
    obtain ⟨a3, cp3, rfl, h31, h32, h33⟩ := hO.form
    clear h31 h32 h33
    have hbw : Below w.heap.size w wr := hb1.trans (hbl.mono hb1.size)
    have hw1 := hb1.size
    have hwr := hbl.size
    rcases Int.lt_or_le N (pw vs.length) with hgt | hle
    · have hc : cmpI (pw vs.length) N = 1 := cmpI_gt hgt
      have HG := Lib.hid hgt
      clear hgt
      go_wp2_with fail
      refine (cmp_num hX.1 hAw).mono ?_
      rintro e w2 ⟨rfl, hb2⟩
      rw [hc]
      go_wp2_with fail
      go_ret
      exact ⟨_, vs, rfl, ⟨(hO.below hb2).1, by
        rcases (hO.below hb2).2 with h | ⟨g, cap, cur, h, hg, r⟩
        · exact Or.inl h
        · exact Or.inr ⟨g, cap, cur, h, by omega, r⟩⟩, fun j hj => (hP j hj).1.below hb2, HG.out, HLE.out, hbw.trans (hb2.mono hbw.size)⟩
    · obtain ⟨c, hc⟩ : ∃ c, c = cmpI (pw vs.length) N := ⟨_, rfl⟩
      have hcl : c ≤ 0 := by
        rw [hc]
        rcases Int.lt_or_eq_of_le hle with h | h
        · rw [cmpI_lt h]; decide
        · rw [cmpI_eq h]; decide
      have hk1 : vs.length + 1 ≤ t := by rw [HT.out]; exact nb_ge (Int.le_trans (pw_ge _) hle)
      have HC := Lib.hid hc
      have HLE2 := Lib.hid hle
      obtain ⟨b, hb⟩ : ∃ b, b = nb (pw vs.length) := ⟨_, rfl⟩
      have hPlt := hX.1.lt
      have hbb : b ≤ 64 * (2 * m + 1) := by
        rw [hb]
        refine nb_le ?_
        rw [show (2:Int) ^ (64 * (2 * m + 1)) = B64 ^ (2 * m + 1) by rw [Int.pow_mul]; rfl]
        exact hPlt
      have HBB := Lib.hid hb
      have hpp : pw (vs.length + 1) < B64 ^ (2 * m + 1) := by
        rw [← pw_succ]
        have h1 : pw vs.length * pw vs.length < B64 ^ m * B64 ^ m := prod_lt (Int.lt_of_le_of_lt hle HLT.out) (Int.lt_of_le_of_lt hle HLT.out) (Int.le_of_lt (pw_pos _)) (Int.le_of_lt (pw_pos _))
        rw [← Int.pow_add] at h1
        exact Int.lt_of_lt_of_le h1 (pow_le_pow B64_pos (by omega))
      have HPP := Lib.hid hpp
      have h1 : ∀ u ∈ [Value.slice aC nC cC], u.oneCell' = true := by intro u hu; rw [List.mem_singleton] at hu; subst hu; rfl
      have hl1 : vs.length + 1 ≤ 4294967296 := by omega
      have hbI : ((b : Nat) : Int) ≤ 128064 := by omega
      clear hc hle hb hPlt hpp
      go_wp2_with fail
      refine (cmp_num hX.1 hAw).mono ?_
      rintro e w2 ⟨rfl, hb2⟩
      rw [← HC.out]
      have hO2 := hO.below hb2
      have hX2 := hX.below hb2
      have hbl2 := hbl.trans (hb2.mono hwr)
      have hs2 := hbl2.size
      go_wp2_with (at_builtin; refine wpList_append_vals _ rfl (.tmp 17) (.tmp 19) 89 rfl Tryd.underlying89 info_nat w1.heap.size (.slice a3 vs.length cp3) vs rfl (hO2.alloc _) ⟨w2.heap.size, 0, none⟩ 1 1 [.slice aC nC cC] rfl rfl (newv1 _ _ _) h1 hl1 (by simp; omega) ?_; intro v2 w3 hO3 hg3 hat3)
      have hrow : v2.ownBlock = (Value.slice a3 vs.length cp3).ownBlock ∨ v2.ownBlock = some (w2.alloc (.cells #[Value.slice aC nC cC] 28)).heap.size := hat3
      have hX3 : NumX w3 v2.ownBlock (.slice aC nC cC) (pw vs.length) (2 * m + 1) := (hX2.alloc _).grown hg3 hrow
      have hP3 : PowX w3 v2.ownBlock (vs ++ [.slice aC nC cC]) (2 * m + 1) := by
        intro j hj
        rw [List.length_append, List.length_singleton] at hj
        rw [getD_snoc]
        by_cases hjv : j < vs.length
        · rw [if_pos hjv]
          exact (((hP j hjv).below hb2).alloc _).grown hg3 hrow
        · obtain rfl : j = vs.length := by omega
          rw [if_neg hjv, if_pos rfl]
          exact hX3
      have hb13 : Below w1.heap.size w1 w3 := below_app hbl2 hO2 (Nat.le_refl _) hs2 hg3
      have hbw3 : Below w.heap.size w w3 := hb1.trans (hb13.mono hb1.size)
      clear hP hX hX2 hg3 hat3 hrow hO hO2
      refine (bits_num hX3.1 (by omega)).mono ?_
      rintro e w' ⟨rfl, rfl⟩
      rw [← HBB.out]
      by_cases hbr : (t : Int) < 2 * (b : Int) - 1
      · go_wp2_with fail
        go_ret
        refine ⟨v2, _, rfl, ⟨hO3.1, ?_⟩, fun j hj => (hP3 j hj).1, ?_, ?_, hbw3⟩
        · rcases hO3.2 with h | ⟨g, cap, cur, h, hg, r⟩
          · exact Or.inl h
          · exact Or.inr ⟨g, cap, cur, h, by omega, r⟩
        · rw [List.length_append, List.length_singleton, ← pw_succ]
          exact break_lt (pw_pos _) (by rw [← HT.out, ← HBB.out]; omega)
        · intro i hi
          rw [List.length_append, List.length_singleton] at hi
          obtain rfl : i = vs.length := by omega
          exact HLE2.out
      · go_wp2_with fail
        refine (mul_num 40 hX3.1 hX3.1 (p := 2 * (2 * m + 1)) (by omega) (by omega) (by decide)).mono ?_
        rintro e w4 ⟨aD, nD, cD, rfl, hD, hb4⟩
        rw [pw_succ] at hD
        have hD2 := hD.tight HPP.out
        have hv2 := fun g e => (hO3.lt g e).2
        obtain ⟨a2, cp2, hv2e, h21, h22, h23⟩ := hO3.form
        rw [List.length_append, List.length_singleton] at hv2e
        subst hv2e
        go_wp2_with fail
        go_roundw
        case rel =>
          refine ⟨vs ++ [.slice aC nC cC], aD, nD, cD, rfl, hO3.below hb4, ?_, fun j hj => (hP3 j hj).below hb4, hb13.trans (hb4.mono hb13.size), ?_, ?_⟩
          · rw [List.length_append, List.length_singleton]
            refine ⟨hD2.num, fun g e => ⟨fun e2 => ?_, (hD.lt g e).2⟩⟩
            have := (hD.lt g e).1
            have := hv2 g e2
            omega
          · show _ ≤ _; rw [List.length_append, List.length_singleton]; exact hk1
          · intro i hi
            rw [List.length_append, List.length_singleton] at hi
            obtain rfl : i = vs.length := by omega
            exact HLE2.out
        case measure =>
          show t + 1 - (vs.length + 1) < t + 1 - vs.length
          omega
end Go.Proofs.YtbieldebkfkpkaaDoor
