/-
  Fail5: The walk of the statement FailKinds.
  Fail6: The walk of the statement FailKinds.
-/
import Derived.Test.YtioigoipggnkpaaDoorPk23
import Derived.BigQuiet
import Derived.Deep.RegionHeld3
import Derived.Deep.DeepCutAuto
import Derived.Deep.RegionWith

namespace Go.Proofs.YtioigoipggnkpaaDoor
open Go.RowKit

/-- An error of the kind c. -/
abbrev kc (c : Int) : Value := .iface 49 (.int .i64 c)
theorem kindfn (w : World) : Calls Tryd.prog 7 #[] w fun e w' => e = .returned (.slice (some ⟨w.heap.size, 0, none⟩) 7 7) ∧ w' = w.alloc (.cells #[kc 1, kc 2, kc 3, kc 4, kc 5, kc 6, kc 7] 28) := by
  go_enter Tryd.func7, Tryd.ntmps7
  go_wp2_with fail
  refine (kf_0 _).mono ?_
  rintro e w' ⟨rfl, rfl⟩
  go_wp2_with fail
  refine (kf_1 _).mono ?_
  rintro e w' ⟨rfl, rfl⟩
  go_wp2_with fail
  refine (kf_2 _).mono ?_
  rintro e w' ⟨rfl, rfl⟩
  go_wp2_with fail
  refine (kf_3 _).mono ?_
  rintro e w' ⟨rfl, rfl⟩
  go_wp2_with fail
  refine (kf_4 _).mono ?_
  rintro e w' ⟨rfl, rfl⟩
  go_wp2_with fail
  refine (kf_5 _).mono ?_
  rintro e w' ⟨rfl, rfl⟩
  go_wp2_with fail
  refine (kf_6 _).mono ?_
  rintro e w' ⟨rfl, rfl⟩
  go_wp2_with fail
  go_ret
  exact ⟨rfl, rfl⟩
theorem textfn (w : World) : Calls Tryd.prog 8 #[] w fun e w' => e = .returned (.slice (some ⟨w.heap.size, 0, none⟩) 7 7) ∧ w' = w.alloc (.cells #[.string (kindS 0), .string (kindS 1), .string (kindS 2), .string (kindS 3), .string (kindS 4), .string (kindS 5), .string (kindS 6)] 9) := by
  go_enter Tryd.func8, Tryd.ntmps8
  go_wp2_with fail
  go_ret
  exact ⟨rfl, rfl⟩
/-- Seven values in a row of memory. -/
def Row7 (w : World) (g : Nat) (f : Nat → Value) : Prop := ∀ i, i < 7 → w.cell? ⟨g, i, none⟩ = some (f i)
theorem Row7.under {w w' : World} {g : Nat} {f : Nat → Value} (h : Row7 w g f) (hb : Below w.heap.size w w') : Row7 w' g f := fun i hi => cell_under hb (h i hi)
theorem row7_new (w : World) (f : Nat → Value) (t : TypeId) : Row7 (w.alloc (.cells #[f 0, f 1, f 2, f 3, f 4, f 5, f 6] t)) w.heap.size f := by
  intro i hi
  rw [cell_of_row _ _ i _ _ _ (heap_alloc_new w _)]
  match i, hi with
  | 0, _ => rfl
  | 1, _ => rfl
  | 2, _ => rfl
  | 3, _ => rfl
  | 4, _ => rfl
  | 5, _ => rfl
  | 6, _ => rfl
/-- What a round of the loop holds while its operations run in any order. -/
theorem held7 {w w1 w2 : World} {a b t : Addr} {x y z : Value} (hb : Below w1.heap.size w1 w2) (h : w1.cell? a = some x ∧ w1.cell? b = some y ∧ w1.cell? t = some z ∧ Below w.heap.size w w1) : w2.cell? a = some x ∧ w2.cell? b = some y ∧ w2.cell? t = some z ∧ Below w.heap.size w w2 :=
  ⟨cell_under hb h.1, cell_under hb h.2.1, cell_under hb h.2.2.1, h.2.2.2.trans (hb.mono h.2.2.2.size)⟩
theorem held7_base {w w1 : World} {a b t : Addr} {x y z : Value} (h : w1.cell? a = some x ∧ w1.cell? b = some y ∧ w1.cell? t = some z ∧ Below w.heap.size w w1) : Below w.heap.size w w1 := h.2.2.2
end Go.Proofs.YtioigoipggnkpaaDoor

namespace Go.Proofs.YtioigoipggnkpaaDoor
open Go.RowKit

set_option maxRecDepth 100000 in
set_option maxHeartbeats 2000000 in
theorem kinds_ok {w : World} (h : ErrT w) (n : Int) : Calls Tryd.prog 3 #[.int .i64 n] w fun e w' => RetV w (.bool true) e w' := by
  have HF := Lib.hid h
  have HA := Lib.hid (falive h)
  clear h
  go_enter Tryd.func3, Tryd.ntmps3
  go_wp2_with fail
  refine HA.out.mono ?_
  rintro e w1 ⟨rfl, hb1⟩
  have HB1 := Lib.hid hb1
  clear hb1
  go_wp2_with fail
  refine (kindfn w1).mono ?_
  rintro e w2 ⟨rfl, hw2⟩
  have HA2 := Lib.hid (row7_new w1 (fun i => kc ((i + 1 : Nat) : Int)) 28)
  have HS2 := Lib.hid (below_alloc w1 (.cells #[kc 1, kc 2, kc 3, kc 4, kc 5, kc 6, kc 7] 28))
  replace HA2 : Hid (Row7 (w1.alloc (.cells #[kc 1, kc 2, kc 3, kc 4, kc 5, kc 6, kc 7] 28)) w1.heap.size (fun i => kc ((i + 1 : Nat) : Int))) := HA2
  rw [← hw2] at HA2 HS2
  obtain ⟨ga, hga⟩ : ∃ ga, w1.heap.size = ga := ⟨_, rfl⟩
  have HB2 := Lib.hid (HB1.out.trans (HS2.out.mono HB1.out.size))
  rw [hga] at HA2 ⊢
  clear hw2 HS2 hga
  go_wp2_with fail
  refine (kindfn w2).mono ?_
  rintro e w3 ⟨rfl, hw3⟩
  have HC3 := Lib.hid (row7_new w2 (fun i => kc ((i + 1 : Nat) : Int)) 28)
  have HS3 := Lib.hid (below_alloc w2 (.cells #[kc 1, kc 2, kc 3, kc 4, kc 5, kc 6, kc 7] 28))
  replace HC3 : Hid (Row7 (w2.alloc (.cells #[kc 1, kc 2, kc 3, kc 4, kc 5, kc 6, kc 7] 28)) w2.heap.size (fun i => kc ((i + 1 : Nat) : Int))) := HC3
  rw [← hw3] at HC3 HS3
  have HA3 := Lib.hid (HA2.out.under HS3.out)
  obtain ⟨gb, hgb⟩ : ∃ gb, w2.heap.size = gb := ⟨_, rfl⟩
  have HB3 := Lib.hid (HB2.out.trans (HS3.out.mono HB2.out.size))
  rw [hgb] at HC3 ⊢
  clear hw3 HS3 hgb HA2
  go_wp2_with fail
  refine (textfn w3).mono ?_
  rintro e w4 ⟨rfl, hw4⟩
  have HT4 := Lib.hid (row7_new w3 (fun i => .string (kindS i)) 9)
  have HS4 := Lib.hid (below_alloc w3 (.cells #[.string (kindS 0), .string (kindS 1), .string (kindS 2), .string (kindS 3), .string (kindS 4), .string (kindS 5), .string (kindS 6)] 9))
  rw [← hw4] at HT4 HS4
  have HA4 := Lib.hid (HA3.out.under HS4.out)
  have HC4 := Lib.hid (HC3.out.under HS4.out)
  obtain ⟨gt, hgt⟩ : ∃ gt, w3.heap.size = gt := ⟨_, rfl⟩
  have HB4 := Lib.hid (HB3.out.trans (HS4.out.mono HB3.out.size))
  rw [hgt] at HT4 ⊢
  clear hw4 HS4 hgt HA3 HC3
  have mE := methodErrorK
  go_wp2_with fail
  go_loopw [6, 7, 8, 9] (fun ii _ _ _ wr => ∃ i : Nat, i ≤ 7 ∧ ii = .int .i64 i ∧ Hid (Below w4.heap.size w4 wr)) (fun ii _ _ _ _ => 7 - (intOf ii).toNat)
  case atStart => exact ⟨0, by decide, rfl, Lib.hid (Below.refl _ _)⟩
  case round =>
    obtain ⟨i, hi, rfl, HW⟩ := hrel
    have HWF := Lib.hid (cell_under (HB4.out.trans (HW.out.mono HB4.out.size)) HF.out)
    by_cases h7 : i < 7
    · have ca : wr.cell? ⟨ga, i, none⟩ = some (kc ((i + 1 : Nat) : Int)) := (HA4.out.under HW.out) i h7
      have cb : wr.cell? ⟨gb, i, none⟩ = some (kc ((i + 1 : Nat) : Int)) := (HC4.out.under HW.out) i h7
      have ct : wr.cell? ⟨gt, i, none⟩ = some (.string (kindS i)) := (HT4.out.under HW.out) i h7
      have h7I : (i : Int) < 7 := by omega
      have HKE := Lib.hid (fun w => kind_error i h7 w)
      have HKC := Lib.hid (fun w => code_kind (w := w) i h7 (Ch.kind _))
      obtain ⟨c, hc⟩ : ∃ c : Int, ((i + 1 : Nat) : Int) = c := ⟨_, rfl⟩
      have hic : (i : Int) + 1 = c := by omega
      rw [hc] at ca cb HKE HKC
      have hwc : IntKind.i64.wrap ((i : Int) + 1) = c := by rw [IntKind.wrap_i64]; omega
      clear hc hic
      go_upto_region 7 with fail
      go_region_held3 (fun w' => w'.cell? ⟨ga, i, none⟩ = some (.iface 49 (.int .i64 c)) ∧ w'.cell? ⟨gb, i, none⟩ = some (.iface 49 (.int .i64 c)) ∧ w'.cell? ⟨gt, i, none⟩ = some (.string (kindS i)) ∧ Below wr.heap.size wr w')
        (first
          | (exact ⟨ca, cb, ct, Below.refl _ _⟩)
          | (exact held7 (bdn (Below.refl _ _) 1) ⟨ca, cb, ct, Below.refl _ _⟩)
          | (refine held7 (by assumption) ?_; assumption)
          | (fail))
        (first
          | (go_at_call 78; refine (HKE.out _).mono ?_; rintro e wn ⟨rfl, rfl⟩)
          | (go_at_call 9; refine (HKC.out _).mono ?_; rintro e wn ⟨rfl, hbn⟩))
      have hb5 := held7_base (by assumption)
      have HWQ := Lib.hid (HW.out.trans (hb5.mono HW.out.size))
      clear hb5 ca cb ct HWF HW HKE HKC hwc
      go_wp2_with fail
      go_loopw [7] (fun kk wi => ∃ k : Nat, k ≤ 7 ∧ kk = .int .i64 k ∧ Hid (Below w4.heap.size w4 wi)) (fun kk _ => 7 - (intOf kk).toNat)
      case atStart => exact ⟨0, by decide, rfl, HWQ⟩
      case round =>
        obtain ⟨k, hk, rfl, HW⟩ := hrel
        clear HWQ
        have HWF := Lib.hid (cell_under (HB4.out.trans (HW.out.mono HB4.out.size)) HF.out)
        have ca := (HA4.out.under HW.out) i h7
        by_cases hk7 : k < 7
        · have cb := (HC4.out.under HW.out) k hk7
          have hkI : (k : Int) < 7 := by omega
          have HIS := Lib.hid (fun w => is_of (w := w) ((k + 1 : Nat) : Int) (Ch.kind ((i + 1 : Nat) : Int)))
          obtain ⟨d, hd⟩ : ∃ d : Int, ((k + 1 : Nat) : Int) = d := ⟨_, rfl⟩
          obtain ⟨c2, hc2⟩ : ∃ d : Int, ((i + 1 : Nat) : Int) = d := ⟨_, rfl⟩
          rw [hd] at HIS
          rw [hc2] at HIS
          replace cb : wr.cell? ⟨gb, k, none⟩ = some (.iface 49 (.int .i64 d)) := by rw [cb, ← hd]
          replace ca : wr.cell? ⟨ga, i, none⟩ = some (.iface 49 (.int .i64 c2)) := by rw [ca, ← hc2]
          by_cases hik : i = k
          · have hdd : c2 = d := by omega
            have hikI : (i : Int) = (k : Int) := by omega
            rw [show decide ((some c2 : Option Int) = some d) = true by simp [hdd]] at HIS
            clear hd hc2 hdd
            subst hik
            go_upto_region 12 with fail
            go_quiet (first | (go_at_call 10; refine Calls.quiet_of_same (HIS.out _)))
            have HWQ := Lib.hid (bdn HW.out nq)
            clear HW ca cb HWF
            go_wp2_with fail
            go_roundw
            case rel => exact ⟨i + 1, by omega, by go_num, HWQ⟩
            case measure => simp [intOf]; omega
          · have hne : ¬ (i : Int) = (k : Int) := by omega
            have hdd : ¬ c2 = d := by omega
            rw [show decide ((some c2 : Option Int) = some d) = false by simp [hdd]] at HIS
            clear hd hc2 hdd
            go_upto_region 12 with fail
            go_quiet (first | (go_at_call 10; refine Calls.quiet_of_same (HIS.out _)))
            have HWQ := Lib.hid (bdn HW.out nq)
            clear HW ca cb HWF
            go_wp2_with fail
            go_roundw
            case rel => exact ⟨k + 1, by omega, by go_num, HWQ⟩
            case measure => simp [intOf]; omega
        · obtain rfl : k = 7 := by omega
          have h7I2 : (i : Int) < 7 := by omega
          have HWH := Lib.hid (where_of (Ch.kind (w := wr) ((i + 1 : Nat) : Int)) HWF.out)
          obtain ⟨c2, hc2⟩ : ∃ d : Int, ((i + 1 : Nat) : Int) = d := ⟨_, rfl⟩
          rw [hc2] at HWH
          replace ca : wr.cell? ⟨ga, i, none⟩ = some (.iface 49 (.int .i64 c2)) := by rw [ca, ← hc2]
          clear hc2
          go_wp2_with fail
          refine HWH.out.mono ?_
          rintro e w6 ⟨rfl, hb6⟩
          rw [show whereOf none = .tuple #[.int .i64 0, .bool false] from rfl]
          have HW6 := Lib.hid (HW.out.trans (hb6.mono HW.out.size))
          clear hb6 ca
          go_wp2_with fail
          go_roundw
          case rel => exact ⟨i + 1, by omega, by go_num, HW6⟩
          case measure => simp [intOf]; omega
    · obtain rfl : i = 7 := by omega
      go_wp2_with fail
      refine (where_of (Ch.nil (w := wr)) HWF.out).mono ?_
      rintro e w6 ⟨rfl, hb6⟩
      rw [show whereOf none = .tuple #[.int .i64 0, .bool false] from rfl]
      have HW6 := Lib.hid (HW.out.trans (hb6.mono HW.out.size))
      clear hb6
      go_wp2_with fail
      refine (code_nil w6).mono ?_
      rintro e w7 ⟨rfl, hb7⟩
      have HW7 := Lib.hid (HW6.out.trans (hb7.mono HW6.out.size))
      clear hb7
      go_wp2_with fail
      refine (err_new _ _).mono ?_
      rintro e w8 ⟨rfl, hw8⟩
      have HB8 : Hid (Below w7.heap.size w7 w8) := Lib.hid (by rw [hw8]; exact below_alloc w7 _)
      have HW8 := Lib.hid (HW7.out.trans (HB8.out.mono HW7.out.size))
      clear hw8 HB8
      go_wp2_with fail
      refine (code_of (Ch.other (w := w8) _) (by decide) 8 (Or.inr ⟨rfl, rfl⟩)).mono ?_
      rintro e w9 ⟨rfl, hb9⟩
      have HW9 := Lib.hid (HW8.out.trans (hb9.mono HW8.out.size))
      clear hb9
      go_wp2_with fail
      refine (in_nil _ _).mono ?_
      rintro e w10 ⟨rfl, rfl⟩
      go_wp2_with fail
      refine (node_nil _ _).mono ?_
      rintro e w11 ⟨rfl, hw11⟩
      have HB11 : Hid (Below w10.heap.size w10 w11) := Lib.hid (by rw [hw11]; exact below_alloc w10 _)
      have HW11 := Lib.hid (HW9.out.trans (HB11.out.mono HW9.out.size))
      clear hw11 HB11
      go_wp2_with fail
      refine (node_nil _ _).mono ?_
      rintro e w12 ⟨rfl, hw12⟩
      have HB12 : Hid (Below w11.heap.size w11 w12) := Lib.hid (by rw [hw12]; exact below_alloc w11 _)
      have HC12 : Hid (Ch w12 (.iface 42 (.pointer (some ⟨w11.heap.size, 0, none⟩))) none (some (w11.heap.size, n)) (0 + 1)) := Lib.hid (by
        rw [hw12]
        exact (Ch.nil (w := w11)).nodeNew n)
      have HW12 := Lib.hid (HW11.out.trans (HB12.out.mono HW11.out.size))
      clear hw12 HB12
      go_wp2_with fail
      refine (code_of HC12.out (by decide) 8 (Or.inr ⟨rfl, rfl⟩)).mono ?_
      rintro e w13 ⟨rfl, hb13⟩
      have HW13 := Lib.hid (HW12.out.trans (hb13.mono HW12.out.size))
      clear hb13
      go_wp2_with fail
      go_ret
      exact ⟨rfl, HB4.out.trans (HW13.out.mono HB4.out.size)⟩
end Go.Proofs.YtioigoipggnkpaaDoor
