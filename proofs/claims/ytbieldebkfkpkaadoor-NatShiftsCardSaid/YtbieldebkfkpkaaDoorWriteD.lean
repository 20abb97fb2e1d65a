/-
  Contract of nat.writeDigits: decimal digits by halves.
-/
import Derived.Test.YtbieldebkfkpkaaDoorPowers
import Derived.Test.YtbieldebkfkpkaaDoorText
import Derived.Deep.RegionWith
namespace Go.Proofs.YtbieldebkfkpkaaDoor
open Go.RowKit

/-- A number that lies outside block g. -/
def NumG (w : World) (g : Nat) (v : Value) (N : Int) (m : Nat) : Prop := Num w v N m ∧ ∀ b o n c, v = .slice (some ⟨b, o, none⟩) n c → n ≠ 0 → b ≠ g
theorem NumG.only {w w' : World} {g lo hi : Nat} {v : Value} {N : Int} {m : Nat} (h : NumG w g v N m) (ho : Only g lo hi w w') : NumG w' g v N m := by
  obtain ⟨⟨l, ⟨a, c, rfl, h1, h2, h3, h4⟩, h5, h6⟩, hne⟩ := h
  refine ⟨⟨l, ⟨a, c, rfl, h1, h2, ?_, h4⟩, h5, h6⟩, hne⟩
  rcases h3 with rfl | ⟨b, off, rfl, hat⟩
  · exact Rd.nil _ _
  · by_cases hl : l = []
    · subst hl; exact Rd.nil _ _
    · exact Rd.of_at (ho.at' hat (hne b off _ c rfl (by simpa using hl)))
theorem NumG.below {w w' : World} {g : Nat} {v : Value} {N : Int} {m : Nat} (h : NumG w g v N m) (hb : Below w.heap.size w w') : NumG w' g v N m := ⟨h.1.below hb, h.2⟩
theorem RdRow.only {w w' : World} {g lo hi : Nat} {ao : Option Addr} {vs : List Value} (h : RdRow w ao vs) (ho : Only g lo hi w w') (hne : ∀ b o, ao = some ⟨b, o, none⟩ → b ≠ g) : RdRow w' ao vs := by
  rcases h with rfl | ⟨b, off, rfl, h⟩
  · exact Or.inl rfl
  · refine Or.inr ⟨b, off, rfl, fun j v hv => ?_⟩
    have hc := h j v hv
    have hlt := World.block_lt_of_cell? (a := ⟨b, off + j, none⟩) _ hc
    rw [World.cell?_of_block (w := w) (ho.block b hlt (hne b off rfl))]
    exact hc
theorem RdRow.take {w : World} {ao : Option Addr} {vs : List Value} (h : RdRow w ao vs) (k : Nat) : RdRow w ao (vs.take k) := by
  rcases h with rfl | ⟨b, off, rfl, h⟩
  · exact Or.inl (by simp)
  · refine Or.inr ⟨b, off, rfl, fun j v hv => h j v ?_⟩
    rw [List.getElem?_take] at hv
    split at hv
    · exact hv
    · cases hv

theorem dg_half (h : Nat) (N : Int) : dg (h + h) N = dg h (N / 10 ^ h) ++ dg h (N % 10 ^ h) := by
  rw [dg_add, dg_mod h h N (Nat.le_refl _)]

theorem ArrB.only {b lo hi : Nat} {u v : World} {off : Nat} {l : List Int} (ha : ArrB u b off l) (h : Only b lo hi u v) (hd : off + l.length ≤ lo ∨ hi ≤ off) : ArrB v b off l := by
  obtain ⟨cur, e, hc, hl⟩ := ha
  obtain ⟨c, a, _, g⟩ := h.row cur e hc
  exact ⟨c, e, a, fun j hj => (g _ (by omega)).trans (hl j hj)⟩
theorem ArrB.join {w : World} {b off : Nat} {l m : List Int} (h : ArrB w b off l) (k : ArrB w b (off + l.length) m) : ArrB w b off (l ++ m) := by
  obtain ⟨cur, e, hc, hl⟩ := h
  obtain ⟨cur2, e2, hc2, hl2⟩ := k
  rw [hc] at hc2
  simp only [Option.some.injEq, Obj.cells.injEq] at hc2
  obtain ⟨rfl, rfl, _⟩ := hc2
  refine ⟨cur, e, hc, fun j hj => ?_⟩
  rw [List.length_append] at hj
  by_cases hjl : j < l.length
  · rw [hl j hjl, List.getD_eq_getElem?_getD, List.getD_eq_getElem?_getD, List.getElem?_append_left hjl]
  · have := hl2 (j - l.length) (by omega)
    rw [show off + l.length + (j - l.length) = off + j by omega] at this
    rw [this, List.getD_eq_getElem?_getD, List.getD_eq_getElem?_getD, List.getElem?_append_right (by omega)]

set_option maxRecDepth 100000 in
set_option maxHeartbeats 2000000 in
theorem writeDigits_base (p g off n cap : Nat) (D : List Int) (au : Option Addr) (nu cu : Nat) (N : Int) (m : Nat) (ap : Option Addr) (cp : Nat) (w : World) (hn : n = 19 * 2 ^ p) (hD : D.length = n) (h1 : n ≤ cap) (h2 : cap ≤ 9223372036854775807)
    (hd : ArrB w g off D) (hu : Num w (.slice au nu cu) N m) (hm : m ≤ 150) (hp : p ≤ 60) (hbase : p = 0 ∨ nu < 30) :
    Calls Tryd.prog 73 #[.slice (some ⟨g, off, none⟩) n cap, .slice au nu cu, .slice ap p cp] w fun e w' => RetWD g off n N w e w' := by
  obtain ⟨l, ⟨a, c, he, k1, k2, k3, k4⟩, rfl, k6⟩ := hu
  simp only [Value.slice.injEq] at he
  obtain ⟨rfl, hnu, rfl⟩ := he
  have hglt := hd.lt
  have HOF := Lib.hid (of_any au nu cu l w hnu (by omega) k2 k3 (by unfold MaxW; omega))
  have HNN := Lib.hid hn
  have HD := Lib.hid hD
  have HWC := fun w1 v1 (hb1 : Below w.heap.size w w1) (hO1 : Ow w.heap.size w1 v1 (tr l)) => writeChunks_any g off n cap (2 ^ p) D v1 (tr l) w.heap.size w1 HNN.out HD.out h1 h2 (hd.below hb1 hglt) hO1 (k4.take _) hglt hb1.size
  have hpI : (p : Int) ≤ 60 := by omega
  clear hn hD k3 k1 k2 k6 hd hnu
  rcases hbase with rfl | hbase
  · go_enter Tryd.func73, Tryd.ntmps73
    go_wp2_with fail
    refine HOF.out.mono ?_
    rintro e w1 ⟨v1, rfl, hO1, hb1⟩
    go_wp2_with fail
    refine (HWC w1 v1 hb1 hO1).mono ?_
    rintro e w2 ⟨rfl, harr, honly⟩
    go_wp2_with fail
    go_end0
    rw [vb_tr] at harr
    exact ⟨rfl, harr, ((OnlyB.of_below hb1 hglt).trans honly).only⟩
  · by_cases hp0 : p = 0
    · subst hp0
      go_enter Tryd.func73, Tryd.ntmps73
      go_wp2_with fail
      refine HOF.out.mono ?_
      rintro e w1 ⟨v1, rfl, hO1, hb1⟩
      go_wp2_with fail
      refine (HWC w1 v1 hb1 hO1).mono ?_
      rintro e w2 ⟨rfl, harr, honly⟩
      go_wp2_with fail
      go_end0
      rw [vb_tr] at harr
      exact ⟨rfl, harr, ((OnlyB.of_below hb1 hglt).trans honly).only⟩
    · have hp1 : ¬ (p : Int) - 1 < 0 := by omega
      have hnI : (nu : Int) < 30 := by omega
      go_enter Tryd.func73, Tryd.ntmps73
      go_wp2_with fail
      refine HOF.out.mono ?_
      rintro e w1 ⟨v1, rfl, hO1, hb1⟩
      go_wp2_with fail
      refine (HWC w1 v1 hb1 hO1).mono ?_
      rintro e w2 ⟨rfl, harr, honly⟩
      go_wp2_with fail
      go_end0
      rw [vb_tr] at harr
      exact ⟨rfl, harr, ((OnlyB.of_below hb1 hglt).trans honly).only⟩

set_option maxRecDepth 100000 in
set_option maxHeartbeats 4000000 in
theorem writeDigits_num : ∀ (p g off n cap : Nat) (D : List Int) (au : Option Addr) (nu cu : Nat) (N : Int) (m : Nat) (ap : Option Addr) (cp : Nat) (vs : List Value) (K : Nat) (w : World), n = 19 * 2 ^ p → D.length = n → n ≤ cap → cap ≤ 9223372036854775807 →
    ArrB w g off D → Num w (.slice au nu cu) N m → m ≤ 150 → vs.length = p → p ≤ 60 → p ≤ cp → cp ≤ 9223372036854775807 → RdRow w ap vs → (∀ b o, ap = some ⟨b, o, none⟩ → b ≠ g) → (∀ j, j < p → NumG w g (vs.getD j undef) (pw j) K) → K ≤ 1000 →
    Calls Tryd.prog 73 #[.slice (some ⟨g, off, none⟩) n cap, .slice au nu cu, .slice ap p cp] w fun e w' => RetWD g off n N w e w' := by
  intro p
  induction p with
  | zero =>
    intro g off n cap D au nu cu N m ap cp vs K w hn hD h1 h2 hd hu hm hvs hp hcp hcp2 hrow hne hels hK
    exact writeDigits_base 0 g off n cap D au nu cu N m ap cp w hn hD h1 h2 hd hu hm hp (Or.inl rfl)
  | succ q ih =>
    intro g off n cap D au nu cu N m ap cp vs K w hn hD h1 h2 hd hu hm hvs hp hcp hcp2 hrow hne hels hK
    by_cases h30 : nu < 30
    · exact writeDigits_base (q + 1) g off n cap D au nu cu N m ap cp w hn hD h1 h2 hd hu hm hp (Or.inr h30)
    · obtain ⟨P, hP⟩ : ∃ P, q + 1 = P := ⟨_, rfl⟩
      obtain ⟨h, hh⟩ : ∃ h, h = 19 * 2 ^ q := ⟨_, rfl⟩
      have hnh : n = h + h := by rw [hn, hh, Nat.pow_succ]; omega
      have hh0 : 0 < h := by rw [hh]; have := Nat.two_pow_pos q; omega
      have hPI : (P : Int) - 1 = (q : Int) := by omega
      have hq0 : ¬ (q : Int) < 0 := by omega
      have hnuI : ¬ (nu : Int) < 30 := by omega
      have hqP : q < P := by omega
      have hqcp : q ≤ cp := by omega
      have htd : ((n : Int)).tdiv 2 = (h : Int) := by rw [Int.tdiv_eq_ediv_of_nonneg (by omega)]; omega
      have hhn : h ≤ n := by omega
      have hhc : h < cap := by omega
      have hhcap : h ≤ cap := by omega
      have hcne : ¬ cap = h := by omega
      have hnh2 : n - h = h := by omega
      have hv0 : vs ≠ [] := by intro e; subst e; simp at hvs
      obtain ⟨b, o, rfl, hcells⟩ := hrow.resolve_left hv0
      have hbne := hne b o rfl
      have hel := hels q (by omega)
      obtain ⟨ae, ne, ce, le, hve, -⟩ := hel.1.open
      have hcell : w.cell? ⟨b, o + q, none⟩ = some (.slice ae ne ce) := by
        rw [← hve]
        refine hcells q _ ?_
        rw [List.getD_eq_getElem?_getD, List.getElem?_eq_getElem (by omega)]; rfl
      have hele := hel.1
      rw [hve] at hele
      have hpwq : pw q = 10 ^ h := by rw [hh]; rfl
      have hpw0 : pw q ≠ 0 := by have := pw_pos q; omega
      have hglt := hd.lt
      have hrowq := (show RdRow w (some ⟨b, o, none⟩) vs from Or.inr ⟨b, o, rfl, hcells⟩).take q
      have hlq : (vs.take q).length = q := by rw [List.length_take]; omega
      have helq : ∀ j, j < q → NumG w g ((vs.take q).getD j undef) (pw j) K := by
        intro j hj
        have := hels j (by omega)
        rw [List.getD_eq_getElem?_getD, List.getElem?_take, if_pos hj, ← List.getD_eq_getElem?_getD]
        exact this
      have hneq : ∀ b' o', (some ⟨b, o, none⟩ : Option Addr) = some ⟨b', o', none⟩ → b' ≠ g := fun b' o' e => by cases e; exact hbne
      have hN0 := hu.nonneg
      have hNlt := hu.lt
      have HDM := Lib.hid (dm_num hu hele hm (by omega) hpw0)
      have HN := Lib.hid hnh
      have HH := Lib.hid hh
      have HD := Lib.hid hD
      have HPW := Lib.hid hpwq
      have HIH := Lib.hid ih
      have HLQ := Lib.hid hlq
      clear hn hnh hh hD hvs hu hrow hels hv0 hve hel hele hpwq ih hlq hcells hne
      rw [hP]
      clear hP
      go_enter Tryd.func73, Tryd.ntmps73
      go_wp2_with fail
      refine HDM.out.mono ?_
      rintro e w1 ⟨aQ, nQ, cQ, aR, nR, cR, rfl, hQ, hR, hdis, hb1⟩
      have hd1 := hd.below hb1 hglt
      have hQm := hQ.len.2
      have hRm := hR.len.2
      have bd := bdn (Below.refl w1.heap.size w1) 1
      have hglt1 : g < w1.heap.size := hd1.lt
      have hT : ArrB w1.drew g off (D.take h) := (hd1.take h).below bd hglt1
      have hrow1 := (hrowq.below hb1).below bd
      have hel1 : ∀ j, j < q → NumG w1.drew g ((vs.take q).getD j undef) (pw j) K := fun j hj => ((helq j hj).below hb1).below bd
      have HI1 := Lib.hid (HIH.out g off h cap (D.take h) aQ nQ cQ (N / pw q) m (some ⟨b, o, none⟩) cp (vs.take q) K w1.drew HH.out (by rw [List.length_take, HD.out]; omega) hhcap h2 hT (hQ.num.below bd) hm HLQ.out (by omega) hqcp hcp2 hrow1 hneq hel1 hK)
      have hDd : ArrB w1.drew g (off + h) (D.drop h) := (hd1.drop h).below bd hglt1
      have hR1 := (hR.tight (k := m) (by have h3 := Int.mul_ediv_add_emod N (pw q); have h4 := Int.mul_nonneg (Int.le_of_lt (pw_pos q)) (Int.ediv_nonneg hN0 (Int.le_of_lt (pw_pos q))); omega)).below bd
      have hglt2 : g < w.heap.size := hglt
      clear hT hd1 hd hrowq helq hQ hR HDM
      go_wp2_with fail
      go_region_with (go_at_call 73; refine HI1.out.mono ?_; rintro e w2 ⟨rfl, harr2, hon2⟩)
      have bd2 := bdn (Below.refl w2.heap.size w2) 1
      have hD2 : ArrB w2.drew g (off + h) (D.drop h) := (hDd.only hon2 (Or.inr (Nat.le_refl _))).below bd2 (by have := hon2.size; have e1 : w1.drew.heap.size = w1.heap.size := rfl; omega)
      have hR2 : NewN w.heap.size w2.drew (.slice aR nR cR) (N % pw q) m := (hR1.only hon2 hglt2).below bd2
      have HI2 := Lib.hid (HIH.out g (off + h) h (cap - h) (D.drop h) aR nR cR (N % pw q) m (some ⟨b, o, none⟩) cp (vs.take q) K w2.drew HH.out (by rw [List.length_drop, HD.out]; omega) (by omega) (by omega) hD2 hR2.num hm HLQ.out (by omega) hqcp hcp2 ((hrow1.only hon2 hneq).below bd2) hneq (fun j hj => ((hel1 j hj).only hon2).below bd2) hK)
      have hfirst : ArrB w2.drew g off (dg h (N / pw q)) := harr2.below bd2 harr2.lt
      have hon12 : Only g off (off + n) w w2.drew := ((Only.of_below (hb1.trans (bd.mono hb1.size))).trans (hon2.mono (Nat.le_refl _) (by omega))).trans (Only.of_below bd2)
      clear hD2 hR2 hrow1 hel1 hDd hR1
      go_wp2_with fail
      go_region_with (go_at_call 73; refine HI2.out.mono ?_; rintro e w3 ⟨rfl, harr3, hon3⟩)
      go_wp2_with fail
      go_end0
      have hj := (hfirst.only hon3 (Or.inl (by rw [dg_length]; exact Nat.le_refl _))).join (by rw [dg_length]; exact harr3)
      rw [HPW.out, ← dg_half, ← HN.out] at hj
      exact ⟨rfl, hj, hon12.trans (hon3.mono (by omega) (by omega))⟩
end Go.Proofs.YtbieldebkfkpkaaDoor
