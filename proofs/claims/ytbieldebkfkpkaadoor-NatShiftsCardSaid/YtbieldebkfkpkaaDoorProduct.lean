/-
  Contract of whole.product: the product of any count of numbers, by halves.
-/
import Derived.Test.YtbieldebkfkpkaaDoorWhole4
import Derived.Deep.RegionWith
namespace Go.Proofs.YtbieldebkfkpkaaDoor
open Go.RowKit

def prodl : List Int → Int
  | [] => 1
  | x :: l => x * prodl l
theorem prodl_append (l m : List Int) : prodl (l ++ m) = prodl l * prodl m := by
  induction l with
  | nil => simp [prodl]
  | cons x l ih => rw [List.cons_append, prodl, prodl, ih, Int.mul_assoc]
theorem prodl_halves (l : List Int) (h : Nat) : prodl (l.take h) * prodl (l.drop h) = prodl l := by rw [← prodl_append, List.take_append_drop]

/-- Every value of a row is a number. -/
def Nums (w : World) (m : Nat) (vs : List Value) (Ns : List Int) : Prop := vs.length = Ns.length ∧ ∀ j, j < vs.length → ∃ a n c, vs.getD j undef = .slice a n c ∧ Num w (.slice a n c) (Ns.getD j 0) m
theorem Nums.below {w w' : World} {m : Nat} {vs : List Value} {Ns : List Int} (h : Nums w m vs Ns) (hb : Below w.heap.size w w') : Nums w' m vs Ns := by
  refine ⟨h.1, fun j hj => ?_⟩
  obtain ⟨a, n, c, e, k⟩ := h.2 j hj
  exact ⟨a, n, c, e, k.below hb⟩
theorem getD_take' {α : Type} (l : List α) (d : α) {k j : Nat} (h : j < k) : (l.take k).getD j d = l.getD j d := by
  rw [List.getD_eq_getElem?_getD, List.getElem?_take, if_pos h, List.getD_eq_getElem?_getD]
theorem getD_drop' {α : Type} (l : List α) (d : α) (k j : Nat) : (l.drop k).getD j d = l.getD (k + j) d := by
  rw [List.getD_eq_getElem?_getD, List.getElem?_drop, List.getD_eq_getElem?_getD]
theorem Nums.take {w : World} {m : Nat} {vs : List Value} {Ns : List Int} (h : Nums w m vs Ns) (k : Nat) : Nums w m (vs.take k) (Ns.take k) := by
  refine ⟨by rw [List.length_take, List.length_take, h.1], fun j hj => ?_⟩
  rw [List.length_take] at hj
  rw [getD_take' _ _ (by omega), getD_take' _ _ (by omega)]
  exact h.2 j (by omega)
theorem Nums.drop {w : World} {m : Nat} {vs : List Value} {Ns : List Int} (h : Nums w m vs Ns) (k : Nat) : Nums w m (vs.drop k) (Ns.drop k) := by
  refine ⟨by rw [List.length_drop, List.length_drop, h.1], fun j hj => ?_⟩
  rw [List.length_drop] at hj
  rw [getD_drop', getD_drop']
  exact h.2 (k + j) (by omega)
theorem RdRow.drop {w : World} {b o : Nat} {vs : List Value} (h : RdRow w (some ⟨b, o, none⟩) vs) (k : Nat) : RdRow w (some ⟨b, o + k, none⟩) (vs.drop k) := by
  rcases h with rfl | ⟨b', o', e, h⟩
  · exact Or.inl (by simp)
  · cases e
    refine Or.inr ⟨b, o + k, rfl, fun j v hv => ?_⟩
    rw [List.getElem?_drop] at hv
    rw [Nat.add_assoc]
    exact h _ v hv
theorem RdRow.take' {w : World} {ao : Option Addr} {vs : List Value} (h : RdRow w ao vs) (k : Nat) : RdRow w ao (vs.take k) := by
  rcases h with rfl | ⟨b, off, rfl, h⟩
  · exact Or.inl (by simp)
  · refine Or.inr ⟨b, off, rfl, fun j v hv => h j v ?_⟩
    rw [List.getElem?_take] at hv
    split at hv
    · exact hv
    · cases hv

/-- What whole.product returns. -/
def RetPr (w : World) (N : Int) (n M : Nat) (e : Ending) (w' : World) : Prop :=
  ∃ a k c, e = .returned (.slice a k c) ∧ Num w' (.slice a k c) N M ∧ (2 ≤ n → NewN w.heap.size w' (.slice a k c) N M) ∧ Below w.heap.size w w'

set_option maxRecDepth 100000 in
set_option maxHeartbeats 4000000 in
theorem product_num : ∀ (n : Nat) (ao : Option Addr) (cap : Nat) (vs : List Value) (Ns : List Int) (m : Nat) (w : World), vs.length = n → 1 ≤ n → n ≤ 1001 → n ≤ cap → cap ≤ 9223372036854775807 → RdRow w ao vs → Nums w m vs Ns → m ≤ 90 →
    Calls Tryd.prog 83 #[.slice ao n cap] w fun e w' => RetPr w (prodl Ns) n (n * m) e w' := by
  intro n
  induction n using Nat.strongRecOn with
  | _ n ih =>
  intro ao cap vs Ns m w hvs hn1 hn2 hcap hcap2 hrow hnums hm
  obtain ⟨b, o, rfl, hcells⟩ := hrow.resolve_left (by intro e; subst e; simp at hvs; omega)
  by_cases h1 : n = 1
  · subst h1
    obtain ⟨a, k, c, hv, hN⟩ := hnums.2 0 (by omega)
    have hNs : Ns = [Ns.getD 0 0] := by
      have := hnums.1
      match Ns, (show Ns.length = 1 by omega) with
      | [x], _ => rfl
    have hcell : w.cell? ⟨b, o, none⟩ = some (.slice a k c) := by
      rw [← hv]
      refine hcells 0 _ ?_
      rw [List.getD_eq_getElem?_getD, List.getElem?_eq_getElem (by omega)]; rfl
    have hval : prodl Ns = Ns.getD 0 0 := by rw [hNs]; simp [prodl]
    have HV := Lib.hid hval
    clear hv hNs hval hvs hcells hnums hrow ih
    go_enter Tryd.func83, Tryd.ntmps83
    go_wp2_with fail
    go_ret
    exact ⟨a, k, c, rfl, by rw [HV.out, Nat.one_mul]; exact hN, fun h => by omega, Below.refl _ _⟩
  · obtain ⟨h, hh⟩ : ∃ h, h = n / 2 := ⟨_, rfl⟩
    have hh1 : 1 ≤ h := by omega
    have hhn : h < n := by omega
    have hn1I : ((n : Int) == 1) = false := by simp; omega
    have htd : ((n : Int)).tdiv 2 = (h : Int) := by rw [Int.tdiv_eq_ediv_of_nonneg (by omega)]; omega
    have hhc : h ≤ cap := by omega
    have hhn2 : h ≤ n := by omega
    have hcne : ¬ cap = h := by omega
    have bd := bdn (Below.refl w.heap.size w) 1
    have hrd : RdRow w.drew (some ⟨b, o, none⟩) vs := hrow.below bd
    have hnd : Nums w.drew m vs Ns := hnums.below bd
    have HP1 := Lib.hid (ih h hhn (some ⟨b, o, none⟩) cap (vs.take h) (Ns.take h) m w.drew (by rw [List.length_take]; omega) hh1 (by omega) hhc hcap2 (hrd.take' h) (hnd.take h) hm)
    have HP2 := fun w2 (hx : Below w.drew.heap.size w.drew w2) => ih (n - h) (by omega) (some ⟨b, o + h, none⟩) (cap - h) (vs.drop h) (Ns.drop h) m w2 (by rw [List.length_drop]; omega) (by omega) (by omega) (by omega) (by omega) ((hrd.drop h).below hx) ((hnd.drop h).below hx) hm
    have hmul : h * m + (n - h) * m = n * m := by rw [← Nat.add_mul]; congr 1; omega
    have hnm : n * m ≤ 100000 := by
      have := Nat.mul_le_mul hn2 hm
      omega
    have HH := Lib.hid (prodl_halves Ns h)
    have HMUL := Lib.hid hmul
    have HS : w.drew.heap.size = w.heap.size := rfl
    clear hh hvs hcells hnums hrow ih hmul
    go_enter Tryd.func83, Tryd.ntmps83
    go_wp2_with fail
    go_region_with (first
      | (go_at_call_of 83 (Value.slice (some ⟨b, o, none⟩) h cap); refine HP1.out.mono ?_; rintro e w2 ⟨aL, nL, cL, rfl, hL, -, hb2⟩)
      | (go_at_call_of 83 (Value.slice (some ⟨b, o + h, none⟩) (n - h) (cap - h)); refine (HP2 _ (by assumption)).mono ?_; rintro e w3 ⟨aR, nR, cR, rfl, hR, -, hb3⟩; have hL3 := hL.below hb3)
      | (go_at_call 63; refine (mul_num 40 hL3 hR (p := n * m) (by rw [HMUL.out]; exact Nat.le_refl _) hnm (by decide)).mono ?_; rintro e w4 ⟨aZ, nZ, cZ, rfl, hZ, hb4⟩))
    have k1 := bd.trans (hb2.mono (Nat.le_refl _))
    have k2 := k1.trans (hb3.mono k1.size)
    have k3 := k2.trans (hb4.mono k2.size)
    go_wp2_with fail
    go_ret
    rw [HH.out] at hZ
    exact ⟨aZ, nZ, cZ, rfl, hZ.num, fun _ => hZ.base k2.size, k3⟩
end Go.Proofs.YtbieldebkfkpkaaDoor
