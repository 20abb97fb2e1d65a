/-
  The walk of the statement WholeLaws.
-/
import Derived.Test.YtbieldebkfkpkaaDoorVars
import Derived.Test.YtbieldebkfkpkaaDoorQuoMath
import Derived.Test.YtbieldebkfkpkaaDoorAlive2
import Derived.Deep.CutBlock
import Derived.Deep.DeepCutAuto
namespace Go.Proofs.YtbieldebkfkpkaaDoor
open Go.RowKit

/-- A slice of ints reads so. -/
def RdInt (w : World) (ao : Option Addr) (ls : List Int) : Prop := ls = [] ∨ ∃ b off, ao = some ⟨b, off, none⟩ ∧ ∀ j, j < ls.length → w.cell? ⟨b, off + j, none⟩ = some (.int .i64 (ls.getD j 0))
theorem RdInt.below {w w' : World} {ao : Option Addr} {ls : List Int} (h : RdInt w ao ls) (hb : Below w.heap.size w w') : RdInt w' ao ls := by
  rcases h with rfl | ⟨b, off, rfl, h⟩
  · exact Or.inl rfl
  · exact Or.inr ⟨b, off, rfl, fun j hj => cell_after hb (h j hj)⟩

/-- What a slot may be said to hold: an integer; a new row of one. -/
def IsT (Z : Int) (m : Nat) (v : Value) (w : World) : Prop := ∃ p a n c N, v = .agg #[.bool p, .slice a n c] ∧ TN w (.slice a n c) N m ∧ Z = sg p N
def IsB (Z : Int) (m : Nat) (v : Value) (w : World) : Prop := ∃ b p a n c N, v = .slice (some ⟨b, 0, none⟩) 1 1 ∧ w.cell? ⟨b, 0, none⟩ = some (.bool p) ∧ w.cell? ⟨b, 1, none⟩ = some (.slice a n c) ∧ TN w (.slice a n c) N m ∧ Z = sg p N
theorem IsT.keeps (Z : Int) (m : Nat) : Keeps (IsT Z m) := fun _ _ _ hb ⟨p, a, n, c, N, h1, h2, h3⟩ => ⟨p, a, n, c, N, h1, NewN.below h2 hb, h3⟩
theorem IsB.keeps (Z : Int) (m : Nat) : Keeps (IsB Z m) := fun _ _ _ hb ⟨b, p, a, n, c, N, h1, h2, h3, h4, h5⟩ => ⟨b, p, a, n, c, N, h1, cell_after hb h2, cell_after hb h3, NewN.below h4 hb, h5⟩
theorem IsT.of {w w0 : World} {Z : Int} {m : Nat} {p : Bool} {a : Option Addr} {n c : Nat} {N : Int} (h : NewN w0.heap.size w (.slice a n c) N m) (hz : Z = sg p N) : IsT Z m (.agg #[.bool p, .slice a n c]) w := ⟨p, a, n, c, N, rfl, TN.of h, hz⟩

/-- The words of a product. -/
theorem mul_tight {base : Nat} {w : World} {v : Value} {Z NR A B : Int} {pR p q : Bool} {m k : Nat} (h : NewN base w v NR m) (hz : Z = sg pR NR) (hZ : Z = sg p A * sg q B) (hA0 : 0 ≤ A) (hB0 : 0 ≤ B) (hA : A < B64 ^ 1) (hB : B < B64 ^ k) : NewN base w v NR (k + 1) := by
  have h0 := h.num.nonneg
  have hAB : 0 ≤ A * B := Int.mul_nonneg hA0 hB0
  have e : NR = A * B := by
    rw [hz] at hZ
    have : sg p A * sg q B = A * B ∨ sg p A * sg q B = -(A * B) := by cases p <;> cases q <;> simp [sg, Int.neg_mul, Int.mul_neg]
    have h2 : sg pR NR = NR ∨ sg pR NR = -NR := by cases pR <;> simp [sg]
    omega
  refine h.tight ?_
  rw [e, Int.pow_succ, Int.mul_comm]
  have h1 : B * A ≤ B * B64 := Int.mul_le_mul_of_nonneg_left (by rw [Int.pow_one] at hA; omega) hB0
  have h2 : B * B64 < B64 ^ k * B64 := Int.mul_lt_mul_of_pos_right hB B64_pos
  omega
theorem RdI.below {w w' : World} {ao : Option Addr} {els : Els} (h : RdI w ao els) (hb : Below w.heap.size w w') : RdI w' ao els := fun a ha j u hu => by
  have h1 := h a ha j u hu
  rw [hb.cell (World.block_lt_of_cell? _ _ h1)]
  exact h1
set_option maxRecDepth 100000 in
theorem mulw_none {w : World} (p : Bool) {a : Option Addr} {n c : Nat} {A : Int} {m : Nat} (hA : Num w (.slice a n c) A m) (al : Option Addr) (nl cl : Nat) (h0 : nl = 0) (hm : m ≤ 1000) :
    Calls Tryd.prog 43 #[.agg #[.bool p, .slice a n c], .slice al nl cl] w fun e w' => RetW w (sg p A) m e w' := by
  have hb0 := below_alloc w (.cells #[.bool p, .slice a n c] 45)
  have hb1 := hb0.alloc (Nat.le_of_lt (by simp)) (.cells #[.bool false, .slice none 0 0] 45)
  have hz : ((nl : Int) == 0) = true := by simp; omega
  clear h0
  go_enter Tryd.func43, Tryd.ntmps43
  go_wp2_with fail
  refine (make_num p (hA.below hb1) (by omega)).mono ?_
  rintro e w1 ⟨neg', a1, n1, c1', N1, rfl, h1, hs, hz, hb2⟩
  have hblk := slot_kept (heap_alloc2_new w _ _) hb2
  obtain ⟨k0, k1, f0, f1⟩ := slot2 hblk
  have hsz := hb2.size
  have hbw := hb1.trans (hb2.mono hb1.size)
  obtain ⟨hend, hret⟩ := slot_end (Z := sg p A) hblk hbw (by omega) h1 (by simp) hs.symm hz
  go_wp2_with fail
  exact bodyPost_ret (results_cell_row rfl _ _ (w.heap.size + 1) 45 _ (0, 0) _ rfl hend Tryd.underlying45 rfl (by kernel_rfl)) rfl hret
theorem mulall_num {w : World} (p : Bool) {a : Option Addr} {n c : Nat} {A : Int} (hA : Num w (.slice a n c) A 1) (al : Option Addr) (nl cl : Nat) (els : Els) (hnl : nl = els.length) (hne : els ≠ [] → ∃ g, al = some ⟨g, 0, none⟩)
    (hrd : RdI w al els) (hel : ∀ e ∈ els, EOk w 1 e) (hlen : nl ≤ 20) :
    Calls Tryd.prog 43 #[.agg #[.bool p, .slice a n c], .slice al nl cl] w fun e w' => RetW w (sg p A * zprod els) 21 e w' := by
  by_cases h0 : nl = 0
  · obtain rfl : els = [] := List.eq_nil_of_length_eq_zero (by omega)
    refine (mulw_none p hA al nl cl h0 (by decide)).mono ?_
    rintro e w' ⟨neg, a', n', c', N', h1, h2, h3, h4⟩
    exact ⟨neg, a', n', c', N', h1, h2.mono (by decide), by rw [← h3]; simp [zprod, prodl], h4⟩
  · obtain ⟨g, rfl⟩ := hne (by intro e; rw [e] at hnl; simp at hnl; omega)
    refine (mulw_num p hA g 0 nl cl els hnl (by omega) hrd hel (by omega) (by decide)).mono ?_
    rintro e w' ⟨neg, a', n', c', N', h1, h2, h3, h4⟩
    exact ⟨neg, a', n', c', N', h1, h2.mono (by omega), h3, h4⟩
/-- A new variable of the region's own. -/
def IsNew (base : Nat) (v : Value) (w : World) : Prop := ∃ g, v = .pointer (some ⟨g, 0, none⟩) ∧ w.heap[g]? = some (.cells #[.bool false, .slice none 0 0] 45 (0, 0)) ∧ base ≤ g
theorem IsNew.keeps (base : Nat) : Keeps (IsNew base) := fun _ _ _ hb ⟨g, h1, h2, h3⟩ => ⟨g, h1, slot_kept h2 hb, h3⟩

/-- The four variables of the law. -/
structure Vars4 (w wx : World) (gx gy gs gp : Nat) (X Y S P : Int) (m : Nat) : Prop where
  x : VarI wx gx X 1
  y : VarI wx gy Y 1
  s : VarI wx gs S m
  p : VarI wx gp P m
  b : Below w.heap.size w wx
  lx : w.heap.size ≤ gx
  ly : w.heap.size ≤ gy
  ls : w.heap.size ≤ gs
  lp : w.heap.size ≤ gp
  xs : gx ≠ gs
  xp : gx ≠ gp
  ys : gy ≠ gs
  yp : gy ≠ gp
  sp : gs ≠ gp
theorem Vars4.below {w wx w' : World} {gx gy gs gp : Nat} {X Y S P : Int} {m : Nat} (h : Vars4 w wx gx gy gs gp X Y S P m) (hb : Below wx.heap.size wx w') : Vars4 w w' gx gy gs gp X Y S P m :=
  ⟨h.x.below hb, h.y.below hb, h.s.below hb, h.p.below hb, h.b.trans (hb.mono h.b.size), h.lx, h.ly, h.ls, h.lp, h.xs, h.xp, h.ys, h.yp, h.sp⟩
theorem Vars4.grown {w wx w' : World} {gx gy gs gp : Nat} {X Y S P : Int} {m : Nat} {base : Nat} {v : Value} {els : Els} (h : Vars4 w wx gx gy gs gp X Y S P m) (ho : OwI base wx v els) (hg : wx.grownBy w' v.ownBlock) (hx : gx < base) (hy : gy < base) (hs : gs < base) (hp : gp < base) : Vars4 w w' gx gy gs gp X Y S P m := by
  have hne : ∀ g, g < base → v.ownBlock ≠ some g := fun g hg e => by have := (ho.lt g e).1; omega
  exact ⟨h.x.grown hg ho.typed (hne _ hx), h.y.grown hg ho.typed (hne _ hy), h.s.grown hg ho.typed (hne _ hs), h.p.grown hg ho.typed (hne _ hp),
    h.b.grown hg h.b.size (fun g e => by have := (ho.lt g e).1; have := h.lx; omega), h.lx, h.ly, h.ls, h.lp, h.xs, h.xp, h.ys, h.yp, h.sp⟩
/-- The sum and the product are stored. -/
theorem Vars4.store {w wx : World} {gx gy gs gp : Nat} {X Y S P : Int} {m k : Nat} (h : Vars4 w wx gx gy gs gp X Y S P m) {p q : Bool} {a a' : Option Addr} {n n' c c' : Nat} {N M : Int} (hN : TN wx (.slice a n c) N k) (hM : TN wx (.slice a' n' c') M k) :
    VarI ((wx.setCell ⟨gs, 0, none⟩ (.bool p)).setCell ⟨gs, 1, none⟩ (.slice a n c)) gp P m ∧
    Vars4 w ((((wx.setCell ⟨gs, 0, none⟩ (.bool p)).setCell ⟨gs, 1, none⟩ (.slice a n c)).setCell ⟨gp, 0, none⟩ (.bool q)).setCell ⟨gp, 1, none⟩ (.slice a' n' c')) gx gy gs gp X Y (sg p N) (sg q M) k := by
  obtain ⟨pS, aS, nS, cS, NS, hS, -⟩ := h.s
  have o1 := slot_only (w := wx) (g := gs) (.bool p) (.slice a n c)
  have hP1 := h.p.other hS (by decide) o1 h.sp.symm
  have hX1 := h.x.other hS (by decide) o1 h.xs
  have hY1 := h.y.other hS (by decide) o1 h.ys
  have hS1 := VarI.set hS (p := p) hN
  have hM1 := TN.other hM hS (by decide) o1
  refine ⟨hP1, ?_⟩
  obtain ⟨pP, aP, nP, cP, NP, hP, -⟩ := hP1
  have o2 := slot_only (w := (wx.setCell ⟨gs, 0, none⟩ (.bool p)).setCell ⟨gs, 1, none⟩ (.slice a n c)) (g := gp) (.bool q) (.slice a' n' c')
  have hb1 : Below w.heap.size w ((wx.setCell ⟨gs, 0, none⟩ (.bool p)).setCell ⟨gs, 1, none⟩ (.slice a n c)) := h.b.trans (o1.below h.ls h.b.size)
  exact ⟨hX1.other hP (by decide) o2 h.xp, hY1.other hP (by decide) o2 h.yp, hS1.other hP (by decide) o2 h.sp, VarI.set hP hM1, hb1.trans (o2.below h.lp hb1.size), h.lx, h.ly, h.ls, h.lp, h.xs, h.xp, h.ys, h.yp, h.sp⟩
/-- The four variables as they are made. -/
theorem Vars4.new {w w3 : World} {X Y : Int} {pX pY : Bool} {aX aY : Option Addr} {nX cX nY cY : Nat} {NX NY : Int} (hb : Below w.heap.size w w3) (hX : TN w3 (.slice aX nX cX) NX 1) (hY : TN w3 (.slice aY nY cY) NY 1) (hzX : X = sg pX NX) (hzY : Y = sg pY NY) :
    let Z := ((((w3.alloc (.cells #[.bool pX, .slice aX nX cX] 45)).alloc (.cells #[.bool pY, .slice aY nY cY] 45)).alloc (.cells #[.bool pX, .slice aX nX cX] 45)).alloc (.cells #[.bool pX, .slice aX nX cX] 45)).drew
    Vars4 w Z w3.heap.size (w3.heap.size + 1) (w3.heap.size + 1 + 1) (w3.heap.size + 1 + 1 + 1) X Y X X 1 ∧ Vars4 w Z w3.heap.size (w3.heap.size + 1) (w3.heap.size + 1 + 1 + 1) (w3.heap.size + 1 + 1) X Y X X 1 := by
  intro Z
  have s1 : (w3.alloc (.cells #[.bool pX, .slice aX nX cX] 45)).heap.size = w3.heap.size + 1 := by simp
  have s2 : ((w3.alloc (.cells #[.bool pX, .slice aX nX cX] 45)).alloc (.cells #[.bool pY, .slice aY nY cY] 45)).heap.size = w3.heap.size + 1 + 1 := by simp
  have s3 : (((w3.alloc (.cells #[.bool pX, .slice aX nX cX] 45)).alloc (.cells #[.bool pY, .slice aY nY cY] 45)).alloc (.cells #[.bool pX, .slice aX nX cX] 45)).heap.size = w3.heap.size + 1 + 1 + 1 := by simp
  have b1 := below_alloc w3 (.cells #[.bool pX, .slice aX nX cX] 45)
  have b2 := below_alloc (w3.alloc (.cells #[.bool pX, .slice aX nX cX] 45)) (.cells #[.bool pY, .slice aY nY cY] 45)
  have b3 := below_alloc ((w3.alloc (.cells #[.bool pX, .slice aX nX cX] 45)).alloc (.cells #[.bool pY, .slice aY nY cY] 45)) (.cells #[.bool pX, .slice aX nX cX] 45)
  have b4 := bdn (below_alloc (((w3.alloc (.cells #[.bool pX, .slice aX nX cX] 45)).alloc (.cells #[.bool pY, .slice aY nY cY] 45)).alloc (.cells #[.bool pX, .slice aX nX cX] 45)) (.cells #[.bool pX, .slice aX nX cX] 45)) 1
  have v0 := ((((VarI.new (p := pX) hX).eq hzX.symm).below b2).below b3).below b4
  have v1 := ((((VarI.new (p := pY) (NewN.below hY b1)).eq hzY.symm).below b3)).below b4
  have v2 := ((VarI.new (p := pX) (NewN.below (NewN.below hX b1) b2)).eq hzX.symm).below b4
  have v3 := ((VarI.new (p := pX) (NewN.below (NewN.below (NewN.below hX b1) b2) b3)).eq hzX.symm).below (bdn (Below.refl _ _) 1)
  rw [s1] at v1
  rw [s2] at v2
  rw [s3] at v3
  have hbZ : Below w.heap.size w Z := ((((hb.trans (b1.mono hb.size)).trans (b2.mono (by simp; have := hb.size; omega))).trans (b3.mono (by simp; have := hb.size; omega))).trans (b4.mono (by simp; have := hb.size; omega)))
  have hs := hb.size
  exact ⟨⟨v0, v1, v2, v3, hbZ, hs, by omega, by omega, by omega, by omega, by omega, by omega, by omega, by omega⟩, ⟨v0, v1, v3, v2, hbZ, hs, by omega, by omega, by omega, by omega, by omega, by omega, by omega, by omega⟩⟩

set_option maxRecDepth 100000 in
theorem laws_heavy (ao : Option Addr) (nl cl : Nat) (A B : Int) (w : World) (h20 : 20 < nl) (_h : nl ≤ 9223372036854775807) :
    Calls Tryd.prog 6 #[.slice ao nl cl, .int .i64 A, .int .i64 B] w fun e w' => RetV w (.bool true) e w' := by
  have hI : (20 : Int) < (nl : Int) := by omega
  go_enter Tryd.func6, Tryd.ntmps6
  go_wp2_with fail
  refine (alive2_yes _).mono ?_
  rintro e w1 ⟨rfl, hb⟩
  go_wp2_with fail
  go_ret
  exact ⟨rfl, hb⟩

set_option maxRecDepth 100000 in
set_option maxHeartbeats 8000000 in
theorem laws_ok (ao : Option Addr) (nl cl : Nat) (ls : List Int) (A B : Int) (w : World) (hn : nl = ls.length) (hl : RdInt w ao ls) (hls : ∀ x ∈ ls, -9223372036854775808 ≤ x ∧ x ≤ 9223372036854775807)
    (hA0 : -9223372036854775808 ≤ A) (hA1 : A ≤ 9223372036854775807) (hB0 : -9223372036854775808 ≤ B) (hB1 : B ≤ 9223372036854775807) (h20 : nl ≤ 20) :
    Calls Tryd.prog 6 #[.slice ao nl cl, .int .i64 A, .int .i64 B] w fun e w' => RetV w (.bool true) e w' := by
  have hI : ¬ (20 : Int) < (nl : Int) := by omega
  have HN := Lib.hid hn
  have HLS := Lib.hid hls
  clear hn hls
  go_enter Tryd.func6, Tryd.ntmps6
  go_wp2_with fail
  refine (alive2_yes _).mono ?_
  rintro e w1 ⟨rfl, hb1⟩
  go_wp2_with fail
  refine (wof_num A w1 hA0 hA1).mono ?_
  rintro e w2 ⟨pX, aX, nX, cX, NX, rfl, hX, hzX, -, hb2⟩
  have HZX := Lib.hid hzX
  clear hzX
  go_wp2_with fail
  refine (wof_num B w2 hB0 hB1).mono ?_
  rintro e w3 ⟨pY, aY, nY, cY, NY, rfl, hY, hzY, -, hb3⟩
  have HZY := Lib.hid hzY
  clear hzY
  replace hX := TN.of (hX.below hb3)
  replace hY := TN.of hY
  have hbw := (hb1.trans (hb2.mono hb1.size)).trans (hb3.mono (hb1.trans (hb2.mono hb1.size)).size)
  clear hb1 hb2 hb3
  have hnew := Vars4.new hbw hX hY HZX.out HZY.out
  have HNEW := Lib.hid hnew
  clear hnew
  have kx := slot2 (slot_kept (heap_alloc_new w3 (.cells #[.bool pX, .slice aX nX cX] 45)) (below_alloc _ (.cells #[.bool pY, .slice aY nY cY] 45)))
  obtain ⟨kx0, kx1, -, -⟩ := kx

  go_upto_region 4 with fail
  go_cut [7, 8, 9, 10] from 32 to 33 (fun s7 s8 s9 s10 wx => ∃ gx gy gs gp, s7 = .pointer (some ⟨gx, 0, none⟩) ∧ s8 = .pointer (some ⟨gy, 0, none⟩) ∧ s9 = .pointer (some ⟨gs, 0, none⟩) ∧ s10 = .pointer (some ⟨gp, 0, none⟩) ∧ Vars4 w wx gx gy gs gp A B A A 1)
  case first =>
    go_region
    all_goals
      go_wp2_with fail
      go_meet
      first
        | exact ⟨_, _, _, _, rfl, rfl, rfl, rfl, HNEW.out.1⟩
        | exact ⟨_, _, _, _, rfl, rfl, rfl, rfl, HNEW.out.2⟩
  case rest =>
    obtain ⟨gx, gy, gs, gp, rfl, rfl, rfl, rfl, hV⟩ := hcut
    clear HNEW hX hY HZX HZY kx0 kx1 hbw
    obtain ⟨bs, hbs⟩ : ∃ bs, bs = wc.heap.size := ⟨_, rfl⟩
    have lx := hV.x.lt
    have ly := hV.y.lt
    have lS := hV.s.lt
    have lP := hV.p.lt
    rw [← hbs] at lx ly lS lP
    have hbsw : w.heap.size ≤ bs := by rw [hbs]; exact hV.b.size
    have hbw0 : Below bs wc wc := Below.refl _ _
    go_wp2_with fail
    go_loopg [11, 12] nl (fun k va ii wr => ∃ (i : Nat) (els : Els), i + k = nl ∧ ii = .int .i64 i ∧ Hid (els.length = i) ∧ OwI bs wr va els ∧ EI wr 1 els ∧ Vars4 w wr gx gy gs gp A B (A + zsum els) (zprod els * A) (i + 1) ∧ bs ≤ wr.heap.size)
    case atStart => exact ⟨0, [], by omega, rfl, rfl, OwI.nil _ _, (fun _ h => nomatch h), (by simpa [zsum, zprod, prodl] using hV), Nat.le_of_eq hbs⟩
    case round =>
      clear hV hbw0 hbs
      obtain ⟨i, els, hik, rfl, HE, hO, hEI, hV, hbsr⟩ := hrel
      obtain ⟨wo, rfl⟩ : ∃ wo, wo = wr := ⟨wr, rfl⟩
      by_cases hlt : i < nl
      · obtain ⟨x, hx⟩ : ∃ x, x = ls.getD i 0 := ⟨_, rfl⟩
        have hlt2 : i < ls.length := by rw [← HN.out]; exact hlt
        have hxm : x ∈ ls := by rw [hx, List.getD_eq_getElem?_getD, List.getElem?_eq_getElem hlt2]; exact List.getElem_mem hlt2
        obtain ⟨hxr0, hxr1⟩ := HLS.out x hxm
        obtain ⟨bl, ol, rfl, hlc⟩ := (hl.below hV.b).resolve_left (fun e => by rw [e] at hlt2; simp at hlt2)
        have hcx : wo.cell? ⟨bl, ol + i, none⟩ = some (.int .i64 x) := by rw [hx]; exact hlc i hlt2
        have HCX := Lib.hid hx
        clear hx hlc hlt2 hxm
        go_wp2_with fail
        refine (wof_num x wo hxr0 hxr1).mono ?_
        rintro e w5 ⟨pV, aV, nV, cV, NV, rfl, hVn, hzV, -, hb5⟩
        have HZV := Lib.hid hzV
        have hVt : TN w5 (.slice aV nV cV) NV 1 := TN.of hVn
        have hV5 := hV.below hb5
        have hO5 := hO.below hb5
        have hE5 := hEI.below hb5
        have hbs5 : bs ≤ w5.heap.size := Nat.le_trans hbsr hb5.size
        have b6 := below_alloc w5 (.cells #[.bool pV, .slice aV nV cV] 45)
        have hvar := (VarI.new (p := pV) hVt).eq HZV.out.symm
        have b7 := below_alloc (w5.alloc (.cells #[.bool pV, .slice aV nV cV] 45)) (.cells #[.bool pV, .slice aV nV cV] 45)
        have hvar7 := hvar.below b7
        have hV7 := (hV5.below b6).below b7
        have hO7 := (hO5.below b6).below b7
        have hE7 := (hE5.below b6).below b7
        have hVt7 := NewN.below (NewN.below hVt b6) b7
        have hnc := new_cell (w := w5.alloc (.cells #[.bool pV, .slice aV nV cV] 45)) (x := .bool pV) (y := .slice aV nV cV) (t := 45)
        have hlen : els.length + 1 ≤ 65536 := by rw [HE.out]; omega
        have hbs7 : bs ≤ ((w5.alloc (.cells #[.bool pV, .slice aV nV cV] 45)).alloc (.cells #[.bool pV, .slice aV nV cV] 45)).heap.size := by simp; omega
        have hrowlt : ∀ g, u11.ownBlock = some g → g < w5.heap.size := fun g hg => (hO5.lt g hg).2
        have e7 : (w5.alloc (.cells #[.bool pV, .slice aV nV cV] 45)).heap.size = w5.heap.size + 1 := by simp
        rw [e7] at hnc
        clear hzV hcx hvar hV5 hO5 hE5 hVt hV hO hEI hb5 hVn
        go_wp2_with (at_builtin; refine wpList_append_int1 _ rfl (.tmp 45) (.tmp 47) 71 rfl Tryd.underlying71 info_int bs u11 els rfl hO7 (w5.heap.size + 1) 1 pV aV nV cV NV rfl hnc.1 hnc.2 hlen hbs7 ?_; intro v6 w6 hO6 hg6)
        have hty := hO7.typed
        have hV6 := hV7.grown hO7 hg6 lx ly lS lP
        have hE6 : EI w6 1 (els ++ [(pV, .slice aV nV cV, NV)]) := (hE7.grown hg6 hty).snoc (TN.grown hVt7 hg6 hty)
        have hvar6 : VarI w6 w5.heap.size x 1 := hvar7.grown hg6 hty (fun e => by have := hrowlt _ e; omega)
        have hb76 : Below bs ((w5.alloc (.cells #[.bool pV, .slice aV nV cV] 45)).alloc (.cells #[.bool pV, .slice aV nV cV] 45)) w6 := grown_below hg6 hbs7 (fun g hg => (hO7.lt g hg).1)
        have hbs6 : bs ≤ w6.heap.size := Nat.le_trans hbs7 hg6.size
        clear hty hV7 hO7 hE7 hvar7 hVt7 hnc hg6 hb76 hrowlt e7 hbs7 b6 b7 hlen
        go_upto_region 11 with fail
        refine wp_region_slots_tail (by kernel_rfl) 8 [49, 50, 51, 52, 53, 54, 55, 56] (fun w' => VarI w' w5.heap.size x 1 ∧ Vars4 w w' gx gy gs gp A B (A + zsum els) (zprod els * A) (i + 1) ∧ Below w6.heap.size w6 w') (Said [IsT x 1, IsT (A + zsum els) (i + 1), IsB (A + zsum els) (i + 1), IsT (x + (A + zsum els)) (i + 1 + 1), IsT x 1, IsT (zprod els * A) (i + 1), IsB (zprod els * A) (i + 1), IsT (x * (zprod els * A)) (i + 1 + 1)]) (by kernel_rfl) (by kernel_rfl) (by kernel_rfl) (by kernel_rfl) (by kernel_rfl) (Said.keep ?keep) ⟨hvar6.below (bdn (Below.refl _ _) 1), hV6.below (bdn (Below.refl _ _) 1), bdn (Below.refl _ _) 1⟩ (l := [0, 1, 2, 3, 4, 5, 6, 7]) (by kernel_rfl) ?step ?fin
        case keep =>
          refine List.forall_mem_cons.2 ⟨IsT.keeps _ _, ?_⟩
          refine List.forall_mem_cons.2 ⟨IsT.keeps _ _, ?_⟩
          refine List.forall_mem_cons.2 ⟨IsB.keeps _ _, ?_⟩
          refine List.forall_mem_cons.2 ⟨IsT.keeps _ _, ?_⟩
          refine List.forall_mem_cons.2 ⟨IsT.keeps _ _, ?_⟩
          refine List.forall_mem_cons.2 ⟨IsT.keeps _ _, ?_⟩
          refine List.forall_mem_cons.2 ⟨IsB.keeps _ _, ?_⟩
          refine List.forall_mem_cons.2 ⟨IsT.keeps _ _, ?_⟩
          exact fun _ h => nomatch h
        case step =>
          refine List.forall_mem_cons.2 ⟨?_, ?_⟩
          · refine SlotStep.plain rfl rfl rfl ?_
            intro tm ws hsame hS hg K hK
            have e13 : tm[13]? = some (.pointer (some ⟨w5.heap.size, 0, none⟩)) := hsame.2 13 rfl
            obtain ⟨p, a, n, c, N, k0, k1, -, -, hN, hz⟩ := VarI.open (hS.1)
            go_simp
            exact hK _ _ (Below.refl _ _) hS ⟨p, a, n, c, N, rfl, hN, hz⟩
          refine List.forall_mem_cons.2 ⟨?_, ?_⟩
          · refine SlotStep.plain rfl rfl rfl ?_
            intro tm ws hsame hS hg K hK
            have e9 : tm[9]? = some (.pointer (some ⟨gs, 0, none⟩)) := hsame.2 9 rfl
            obtain ⟨p, a, n, c, N, k0, k1, -, -, hN, hz⟩ := VarI.open (hS.2.1.s)
            go_simp
            exact hK _ _ (Below.refl _ _) hS ⟨p, a, n, c, N, rfl, hN, hz⟩
          refine List.forall_mem_cons.2 ⟨?_, ?_⟩
          · refine SlotStep.plain rfl rfl rfl ?_
            intro tm ws hsame hS hg K hK
            obtain ⟨v50, e50, ⟨p50, a50, n50, c50, N50, rfl, g50, z50⟩⟩ := hg 1 (by kernel_rfl) _ 50 rfl rfl
            go_simp
            exact hK _ _ (below_alloc _ _) (⟨hS.1.below (below_alloc _ _), hS.2.1.below (below_alloc _ _), hS.2.2.trans (Below.mono (below_alloc _ _) hS.2.2.size)⟩) ⟨_, p50, a50, n50, c50, N50, rfl, new_cell.1, new_cell.2, NewN.below g50 (below_alloc _ _), z50⟩
          refine List.forall_mem_cons.2 ⟨?_, ?_⟩
          · refine SlotStep.plain rfl rfl rfl ?_
            intro tm ws hsame hS hg K hK
            obtain ⟨v49, e49, ⟨p49, a49, n49, c49, N49, rfl, g49, z49⟩⟩ := hg 0 (by kernel_rfl) _ 49 rfl rfl
            obtain ⟨v51, e51, ⟨b51, p51, a51, n51, c51, N51, rfl, x51, y51, g51, z51⟩⟩ := hg 2 (by kernel_rfl) _ 51 rfl rfl
            go_simp
            refine (addw1_in p49 p51 x51 y51 ((NewN.num g49).mono (by omega : 1 ≤ i + 1)) (NewN.num g51) (by omega)).mono ?_
            rintro e w2 ⟨pR, aR, nR, cR, NR, rfl, hR, hz, -, hb⟩
            exact hK _ _ hb (⟨hS.1.below (hb), hS.2.1.below (hb), hS.2.2.trans (Below.mono (hb) hS.2.2.size)⟩) ⟨pR, aR, nR, cR, NR, rfl, TN.of (hR), by rw [z49, z51]; exact hz⟩
          refine List.forall_mem_cons.2 ⟨?_, ?_⟩
          · refine SlotStep.plain rfl rfl rfl ?_
            intro tm ws hsame hS hg K hK
            have e13 : tm[13]? = some (.pointer (some ⟨w5.heap.size, 0, none⟩)) := hsame.2 13 rfl
            obtain ⟨p, a, n, c, N, k0, k1, -, -, hN, hz⟩ := VarI.open (hS.1)
            go_simp
            exact hK _ _ (Below.refl _ _) hS ⟨p, a, n, c, N, rfl, hN, hz⟩
          refine List.forall_mem_cons.2 ⟨?_, ?_⟩
          · refine SlotStep.plain rfl rfl rfl ?_
            intro tm ws hsame hS hg K hK
            have e10 : tm[10]? = some (.pointer (some ⟨gp, 0, none⟩)) := hsame.2 10 rfl
            obtain ⟨p, a, n, c, N, k0, k1, -, -, hN, hz⟩ := VarI.open (hS.2.1.p)
            go_simp
            exact hK _ _ (Below.refl _ _) hS ⟨p, a, n, c, N, rfl, hN, hz⟩
          refine List.forall_mem_cons.2 ⟨?_, ?_⟩
          · refine SlotStep.plain rfl rfl rfl ?_
            intro tm ws hsame hS hg K hK
            obtain ⟨v54, e54, ⟨p54, a54, n54, c54, N54, rfl, g54, z54⟩⟩ := hg 5 (by kernel_rfl) _ 54 rfl rfl
            go_simp
            exact hK _ _ (below_alloc _ _) (⟨hS.1.below (below_alloc _ _), hS.2.1.below (below_alloc _ _), hS.2.2.trans (Below.mono (below_alloc _ _) hS.2.2.size)⟩) ⟨_, p54, a54, n54, c54, N54, rfl, new_cell.1, new_cell.2, NewN.below g54 (below_alloc _ _), z54⟩
          refine List.forall_mem_cons.2 ⟨?_, ?_⟩
          · refine SlotStep.plain rfl rfl rfl ?_
            intro tm ws hsame hS hg K hK
            obtain ⟨v53, e53, ⟨p53, a53, n53, c53, N53, rfl, g53, z53⟩⟩ := hg 4 (by kernel_rfl) _ 53 rfl rfl
            obtain ⟨v55, e55, ⟨b55, p55, a55, n55, c55, N55, rfl, x55, y55, g55, z55⟩⟩ := hg 6 (by kernel_rfl) _ 55 rfl rfl
            go_simp
            refine (mulw1_in p53 p55 x55 y55 ((NewN.num g53).mono (by omega : 1 ≤ i + 1)) (NewN.num g55) (by omega)).mono ?_
            rintro e w2 ⟨pR, aR, nR, cR, NR, rfl, hR, hz, -, hb⟩
            exact hK _ _ hb (⟨hS.1.below (hb), hS.2.1.below (hb), hS.2.2.trans (Below.mono (hb) hS.2.2.size)⟩) ⟨pR, aR, nR, cR, NR, rfl, TN.of (mul_tight hR hz rfl (NewN.num g53).nonneg (NewN.num g55).nonneg (NewN.num g53).lt (NewN.num g55).lt), by rw [z53, z55]; exact hz⟩
          exact fun _ h => nomatch h
        case fin =>
          intro tm w8 hsame hS hgot
          obtain ⟨u, hu, htm⟩ := hsame.form (by kernel_rfl)
          obtain ⟨v52, e52, pS, aS, nS, cS, NS, rfl, gS, zS⟩ := hgot 3 (by decide) _ 52 rfl rfl
          obtain ⟨v56, e56, pP, aP, nP, cP, NP, rfl, gP, zP⟩ := hgot 7 (by decide) _ 56 rfl rfl
          have h52 := hu _ _ e52
          have h56 := hu _ _ e56
          obtain ⟨-, hV8, hb8⟩ := hS
          have hO8 := hO6.below hb8
          have hE8 := hE6.below hb8
          obtain ⟨hP1, hV9⟩ := hV8.store (p := pS) (q := pP) gS gP
          obtain ⟨_, _, _, _, _, s0, s1, f0, f1, -, -⟩ := hV8.s.open
          obtain ⟨_, _, _, _, _, q0, q1, f2, f3, -, -⟩ := hP1.open
          have o1 := slot_only (w := w8) (g := gs) (.bool pS) (.slice aS nS cS)
          have o2 := slot_only (w := (w8.setCell ⟨gs, 0, none⟩ (.bool pS)).setCell ⟨gs, 1, none⟩ (.slice aS nS cS)) (g := gp) (.bool pP) (.slice aP nP cP)
          have hO9 := (hO8.only o1 lS).only o2 lP
          obtain ⟨_, _, _, _, _, hcs, _⟩ := hV8.s
          obtain ⟨_, _, _, _, _, hcp, _⟩ := hP1
          have hE9 := (hE8.other hcs (by decide) o1).other hcp (by decide) o2
          have hbs9 : bs ≤ ((((w8.setCell ⟨gs, 0, none⟩ (.bool pS)).setCell ⟨gs, 1, none⟩ (.slice aS nS cS)).setCell ⟨gp, 0, none⟩ (.bool pP)).setCell ⟨gp, 1, none⟩ (.slice aP nP cP)).heap.size := Nat.le_trans (Nat.le_trans (Nat.le_trans hbs6 hb8.size) o1.size) o2.size
          have hzS : sg pS NS = A + zsum (els ++ [(pV, .slice aV nV cV, NV)]) := by rw [zsum_snoc, ← zS, HZV.out]; omega
          have hzP : sg pP NP = zprod (els ++ [(pV, .slice aV nV cV, NV)]) * A := by rw [zprod_snoc, ← zP, HZV.out, ← Int.mul_assoc, Int.mul_comm (sg pV NV)]
          rw [hzS, hzP] at hV9
          have HV9 := Lib.hid hV9
          have HE' : Hid ((els ++ [(pV, Value.slice aV nV cV, NV)]).length = i + 1) := by show _ = _; rw [List.length_append, HE.out]; rfl
          clear hgot hu hsame e52 e56 hV8 hcs hcp o1 o2 hE8 hO8 hzS hzP hV9 gS gP hV6 hE6 hO6 hvar6
          rw [htm]
          clear htm tm
          simp only [List.foldl_cons, List.foldl_nil, List.setIfInBounds_toArray, List.set_cons_zero, List.set_cons_succ, h52, h56, List.drop_succ_cons, List.drop_zero]
          clear h52 h56
          go_wp2_with fail
          go_roundg (nl - (i + 1))
          case measure => omega
          case rel => exact ⟨i + 1, els ++ [(pV, .slice aV nV cV, NV)], by omega, by go_num, HE', hO9, hE9, HV9.out, hbs9⟩
      · have hin : nl = i := by omega
        subst hin
        obtain ⟨ao', cap', rfl, hcap1, hcap2, hrd, hnone, hsome⟩ := hO.form
        have hel20 : els.length ≤ 20 := by rw [HE.out]; exact h20
        obtain ⟨sx, hsx⟩ : ∃ sx, cmpI A 0 = sx := ⟨_, rfl⟩
        obtain ⟨sy, hsy⟩ : ∃ sy, cmpI B 0 = sy := ⟨_, rfl⟩
        obtain ⟨sxy, hsxy⟩ : ∃ sxy, cmpI (A * B) 0 = sxy := ⟨_, rfl⟩
        have hwr : IntKind.i64.wrap (sx * sy) = sxy := by
          have h1 := cmpI_range A 0
          have h2 := cmpI_range B 0
          rw [← hsxy, sign_mul, hsx, hsy, IntKind.wrap_i64]
          rw [hsx] at h1
          rw [hsy] at h2
          rcases h1 with h | h | h <;> rcases h2 with g | g | g <;> rw [h, g] <;> decide
        have HSX := Lib.hid hsx
        have HSY := Lib.hid hsy
        have HSXY := Lib.hid hsxy
        have HWR := Lib.hid hwr
        clear hsx hsy hsxy hwr hO hlt
        go_upto_region 12 with fail
        refine wp_region_slots (by kernel_rfl) [57, 58, 59, 60, 61, 62, 63, 64, 65, 66, 67, 68, 69, 70, 71, 72, 73, 74, 75, 76, 77, 78, 79, 80, 81, 82, 83, 84, 85, 86, 87, 88, 89, 90, 91, 92, 93, 94, 95, 96, 97, 98, 99, 100, 101] (fun w' => Vars4 w w' gx gy gs gp A B (A + zsum els) (zprod els * A) (nl + 1) ∧ RdI w' ao' els ∧ EI w' 1 els ∧ Below wo.heap.size wo w') (Said [IsT (A + zsum els) (nl + 1), IsT A 1, Is (.slice ao' els.length cap'), IsT (A + zsum els) 2, Is (.int .i64 0), Is (.bool false), Is (.bool false), IsT (zprod els * A) (nl + 1), IsT A 1, Is (.slice ao' els.length cap'), IsT (A * zprod els) 21, Is (.int .i64 0), Is (.bool false), Is (.bool false), Is (.bool false), IsT A 1, IsT A 1, IsT (A - A) 2, Is (.int .i64 0), Is (.bool false), Is (.bool false), Is (.bool false), IsT A 1, IsT B 1, IsT (A - B) 2, IsT B 1, IsT A 1, IsT (B - A) 2, IsT (-(B - A)) 2, Is (.int .i64 0), Is (.bool false), Is (.bool false), Is (.bool false), IsT A 1, IsT B 1, IsB B 1, IsT (A * B) 2, Is (.int .i64 sxy), IsT A 1, Is (.int .i64 sx), IsT B 1, Is (.int .i64 sy), Is (.int .i64 sxy), Is (.bool false), Is (.bool false)]) (by kernel_rfl) (by kernel_rfl) (by kernel_rfl) (by kernel_rfl) (Said.keep ?keep) ⟨hV.below (bdn (Below.refl _ _) 1), hrd.below (bdn (Below.refl _ _) 1), hEI.below (bdn (Below.refl _ _) 1), bdn (Below.refl _ _) 1⟩ (l := [0, 1, 2, 3, 4, 5, 6, 7, 8, 9, 10, 11, 12, 13, 14, 15, 16, 17, 18, 19, 20, 21, 22, 23, 24, 25, 26, 27, 28, 29, 30, 31, 32, 33, 34, 35, 36, 37, 38, 39, 40, 41, 42, 43, 44]) (by kernel_rfl) ?step ?fin
        case keep =>
          refine List.forall_mem_cons.2 ⟨IsT.keeps _ _, ?_⟩
          refine List.forall_mem_cons.2 ⟨IsT.keeps _ _, ?_⟩
          refine List.forall_mem_cons.2 ⟨Is.keeps _, ?_⟩
          refine List.forall_mem_cons.2 ⟨IsT.keeps _ _, ?_⟩
          refine List.forall_mem_cons.2 ⟨Is.keeps _, ?_⟩
          refine List.forall_mem_cons.2 ⟨Is.keeps _, ?_⟩
          refine List.forall_mem_cons.2 ⟨Is.keeps _, ?_⟩
          refine List.forall_mem_cons.2 ⟨IsT.keeps _ _, ?_⟩
          refine List.forall_mem_cons.2 ⟨IsT.keeps _ _, ?_⟩
          refine List.forall_mem_cons.2 ⟨Is.keeps _, ?_⟩
          refine List.forall_mem_cons.2 ⟨IsT.keeps _ _, ?_⟩
          refine List.forall_mem_cons.2 ⟨Is.keeps _, ?_⟩
          refine List.forall_mem_cons.2 ⟨Is.keeps _, ?_⟩
          refine List.forall_mem_cons.2 ⟨Is.keeps _, ?_⟩
          refine List.forall_mem_cons.2 ⟨Is.keeps _, ?_⟩
          refine List.forall_mem_cons.2 ⟨IsT.keeps _ _, ?_⟩
          refine List.forall_mem_cons.2 ⟨IsT.keeps _ _, ?_⟩
          refine List.forall_mem_cons.2 ⟨IsT.keeps _ _, ?_⟩
          refine List.forall_mem_cons.2 ⟨Is.keeps _, ?_⟩
          refine List.forall_mem_cons.2 ⟨Is.keeps _, ?_⟩
          refine List.forall_mem_cons.2 ⟨Is.keeps _, ?_⟩
          refine List.forall_mem_cons.2 ⟨Is.keeps _, ?_⟩
          refine List.forall_mem_cons.2 ⟨IsT.keeps _ _, ?_⟩
          refine List.forall_mem_cons.2 ⟨IsT.keeps _ _, ?_⟩
          refine List.forall_mem_cons.2 ⟨IsT.keeps _ _, ?_⟩
          refine List.forall_mem_cons.2 ⟨IsT.keeps _ _, ?_⟩
          refine List.forall_mem_cons.2 ⟨IsT.keeps _ _, ?_⟩
          refine List.forall_mem_cons.2 ⟨IsT.keeps _ _, ?_⟩
          refine List.forall_mem_cons.2 ⟨IsT.keeps _ _, ?_⟩
          refine List.forall_mem_cons.2 ⟨Is.keeps _, ?_⟩
          refine List.forall_mem_cons.2 ⟨Is.keeps _, ?_⟩
          refine List.forall_mem_cons.2 ⟨Is.keeps _, ?_⟩
          refine List.forall_mem_cons.2 ⟨Is.keeps _, ?_⟩
          refine List.forall_mem_cons.2 ⟨IsT.keeps _ _, ?_⟩
          refine List.forall_mem_cons.2 ⟨IsT.keeps _ _, ?_⟩
          refine List.forall_mem_cons.2 ⟨IsB.keeps _ _, ?_⟩
          refine List.forall_mem_cons.2 ⟨IsT.keeps _ _, ?_⟩
          refine List.forall_mem_cons.2 ⟨Is.keeps _, ?_⟩
          refine List.forall_mem_cons.2 ⟨IsT.keeps _ _, ?_⟩
          refine List.forall_mem_cons.2 ⟨Is.keeps _, ?_⟩
          refine List.forall_mem_cons.2 ⟨IsT.keeps _ _, ?_⟩
          refine List.forall_mem_cons.2 ⟨Is.keeps _, ?_⟩
          refine List.forall_mem_cons.2 ⟨Is.keeps _, ?_⟩
          refine List.forall_mem_cons.2 ⟨Is.keeps _, ?_⟩
          refine List.forall_mem_cons.2 ⟨Is.keeps _, ?_⟩
          exact fun _ h => nomatch h
        case step =>
          refine List.forall_mem_cons.2 ⟨?_, ?_⟩
          · refine SlotStep.plain rfl rfl rfl ?_
            intro tm ws hsame hS hg K hK
            have e9 : tm[9]? = some (.pointer (some ⟨gs, 0, none⟩)) := hsame.2 9 rfl
            obtain ⟨p, a, n, c, N, k0, k1, -, -, hN, hz⟩ := VarI.open (hS.1.s)
            go_simp
            exact hK _ _ (Below.refl _ _) hS ⟨p, a, n, c, N, rfl, hN, hz⟩
          refine List.forall_mem_cons.2 ⟨?_, ?_⟩
          · refine SlotStep.plain rfl rfl rfl ?_
            intro tm ws hsame hS hg K hK
            have e7 : tm[7]? = some (.pointer (some ⟨gx, 0, none⟩)) := hsame.2 7 rfl
            obtain ⟨p, a, n, c, N, k0, k1, -, -, hN, hz⟩ := VarI.open (hS.1.x)
            go_simp
            exact hK _ _ (Below.refl _ _) hS ⟨p, a, n, c, N, rfl, hN, hz⟩
          refine List.forall_mem_cons.2 ⟨?_, ?_⟩
          · refine SlotStep.plain rfl rfl rfl ?_
            intro tm ws hsame hS hg K hK
            have e11 : tm[11]? = some (.slice ao' els.length cap') := hsame.2 11 rfl
            go_simp
            exact hK _ _ (Below.refl _ _) hS rfl
          refine List.forall_mem_cons.2 ⟨?_, ?_⟩
          · refine SlotStep.plain rfl rfl rfl ?_
            intro tm ws hsame hS hg K hK
            obtain ⟨v58, e58, ⟨p58, a58, n58, c58, N58, rfl, g58, z58⟩⟩ := hg 1 (by kernel_rfl) _ 58 rfl rfl
            obtain ⟨v59, e59, rfl⟩ := hg 2 (by kernel_rfl) _ 59 rfl rfl
            go_simp
            refine (addw_num p58 (NewN.num g58) ao' els.length cap' els rfl hnone hS.2.1 (EI.eok hS.2.2.1) (by omega) (by decide)).mono ?_
            rintro e w2 ⟨pR, aR, nR, cR, NR, rfl, hR, hz, -, hb⟩
            exact hK _ _ hb (⟨hS.1.below (hb), hS.2.1.below (hb), hS.2.2.1.below (hb), hS.2.2.2.trans (Below.mono (hb) hS.2.2.2.size)⟩) ⟨pR, aR, nR, cR, NR, rfl, TN.of (hR), by rw [z58]; exact hz⟩
          refine List.forall_mem_cons.2 ⟨?_, ?_⟩
          · refine SlotStep.plain rfl rfl rfl ?_
            intro tm ws hsame hS hg K hK
            obtain ⟨v57, e57, ⟨p57, a57, n57, c57, N57, rfl, g57, z57⟩⟩ := hg 0 (by kernel_rfl) _ 57 rfl rfl
            obtain ⟨v60, e60, ⟨p60, a60, n60, c60, N60, rfl, g60, z60⟩⟩ := hg 3 (by kernel_rfl) _ 60 rfl rfl
            go_simp
            refine (cmpw_num p57 p60 (NewN.num g57) (NewN.num g60) (by omega) (by decide)).mono ?_
            rw [← z57, ← z60, cmpI_eq rfl]
            rintro e w2 ⟨rfl, hb⟩
            exact hK _ _ hb (⟨hS.1.below (hb), hS.2.1.below (hb), hS.2.2.1.below (hb), hS.2.2.2.trans (Below.mono (hb) hS.2.2.2.size)⟩) rfl
          refine List.forall_mem_cons.2 ⟨?_, ?_⟩
          · refine SlotStep.plain rfl rfl rfl ?_
            intro tm ws hsame hS hg K hK
            obtain ⟨v61, e61, rfl⟩ := hg 4 (by kernel_rfl) _ 61 rfl rfl
            go_simp
            exact hK _ _ (Below.refl _ _) hS rfl
          refine List.forall_mem_cons.2 ⟨?_, ?_⟩
          · refine SlotStep.plain rfl rfl rfl ?_
            intro tm ws hsame hS hg K hK
            obtain ⟨v62, e62, rfl⟩ := hg 5 (by kernel_rfl) _ 62 rfl rfl
            go_simp
            exact hK _ _ (Below.refl _ _) hS rfl
          refine List.forall_mem_cons.2 ⟨?_, ?_⟩
          · refine SlotStep.guardedNot rfl rfl 6 rfl rfl (by kernel_rfl) (fun _ _ h => h) ?_
            intro tm ws hsame hS hg K hK
            have e10 : tm[10]? = some (.pointer (some ⟨gp, 0, none⟩)) := hsame.2 10 rfl
            obtain ⟨p, a, n, c, N, k0, k1, -, -, hN, hz⟩ := VarI.open (hS.1.p)
            go_simp
            exact hK _ _ (Below.refl _ _) hS ⟨p, a, n, c, N, rfl, hN, hz⟩
          refine List.forall_mem_cons.2 ⟨?_, ?_⟩
          · refine SlotStep.guardedNot rfl rfl 6 rfl rfl (by kernel_rfl) (fun _ _ h => h) ?_
            intro tm ws hsame hS hg K hK
            have e7 : tm[7]? = some (.pointer (some ⟨gx, 0, none⟩)) := hsame.2 7 rfl
            obtain ⟨p, a, n, c, N, k0, k1, -, -, hN, hz⟩ := VarI.open (hS.1.x)
            go_simp
            exact hK _ _ (Below.refl _ _) hS ⟨p, a, n, c, N, rfl, hN, hz⟩
          refine List.forall_mem_cons.2 ⟨?_, ?_⟩
          · refine SlotStep.guardedNot rfl rfl 6 rfl rfl (by kernel_rfl) (fun _ _ h => h) ?_
            intro tm ws hsame hS hg K hK
            have e11 : tm[11]? = some (.slice ao' els.length cap') := hsame.2 11 rfl
            go_simp
            exact hK _ _ (Below.refl _ _) hS rfl
          refine List.forall_mem_cons.2 ⟨?_, ?_⟩
          · refine SlotStep.guardedNot rfl rfl 6 rfl rfl (by kernel_rfl) (fun _ _ h => h) ?_
            intro tm ws hsame hS hg K hK
            obtain ⟨v65, e65, ⟨p65, a65, n65, c65, N65, rfl, g65, z65⟩⟩ := hg 8 (by kernel_rfl) _ 65 rfl rfl
            obtain ⟨v66, e66, rfl⟩ := hg 9 (by kernel_rfl) _ 66 rfl rfl
            go_simp
            refine (mulall_num p65 (NewN.num g65) ao' els.length cap' els rfl hsome hS.2.1 (EI.eok hS.2.2.1) hel20).mono ?_
            rintro e w2 ⟨pR, aR, nR, cR, NR, rfl, hR, hz, -, hb⟩
            exact hK _ _ hb (⟨hS.1.below (hb), hS.2.1.below (hb), hS.2.2.1.below (hb), hS.2.2.2.trans (Below.mono (hb) hS.2.2.2.size)⟩) ⟨pR, aR, nR, cR, NR, rfl, TN.of (hR), by rw [z65]; exact hz⟩
          refine List.forall_mem_cons.2 ⟨?_, ?_⟩
          · refine SlotStep.guardedNot rfl rfl 6 rfl rfl (by kernel_rfl) (fun _ _ h => h) ?_
            intro tm ws hsame hS hg K hK
            obtain ⟨v64, e64, ⟨p64, a64, n64, c64, N64, rfl, g64, z64⟩⟩ := hg 7 (by kernel_rfl) _ 64 rfl rfl
            obtain ⟨v67, e67, ⟨p67, a67, n67, c67, N67, rfl, g67, z67⟩⟩ := hg 10 (by kernel_rfl) _ 67 rfl rfl
            go_simp
            refine (cmpw_num p64 p67 (NewN.num g64) (NewN.num g67) (by omega) (by decide)).mono ?_
            rw [← z64, ← z67, cmpI_eq (Int.mul_comm _ _)]
            rintro e w2 ⟨rfl, hb⟩
            exact hK _ _ hb (⟨hS.1.below (hb), hS.2.1.below (hb), hS.2.2.1.below (hb), hS.2.2.2.trans (Below.mono (hb) hS.2.2.2.size)⟩) rfl
          refine List.forall_mem_cons.2 ⟨?_, ?_⟩
          · refine SlotStep.guardedNot rfl rfl 6 rfl rfl (by kernel_rfl) (fun _ _ h => h) ?_
            intro tm ws hsame hS hg K hK
            obtain ⟨v68, e68, rfl⟩ := hg 11 (by kernel_rfl) _ 68 rfl rfl
            go_simp
            exact hK _ _ (Below.refl _ _) hS rfl
          refine List.forall_mem_cons.2 ⟨?_, ?_⟩
          · refine SlotStep.plain rfl rfl rfl ?_
            intro tm ws hsame hS hg K hK
            obtain ⟨v63, e63, rfl⟩ := hg 6 (by kernel_rfl) _ 63 rfl rfl
            obtain ⟨v69, e69, rfl⟩ := hg 12 (by kernel_rfl) _ 69 rfl rfl
            go_simp
            exact hK _ _ (Below.refl _ _) hS rfl
          refine List.forall_mem_cons.2 ⟨?_, ?_⟩
          · refine SlotStep.plain rfl rfl rfl ?_
            intro tm ws hsame hS hg K hK
            obtain ⟨v70, e70, rfl⟩ := hg 13 (by kernel_rfl) _ 70 rfl rfl
            go_simp
            exact hK _ _ (Below.refl _ _) hS rfl
          refine List.forall_mem_cons.2 ⟨?_, ?_⟩
          · refine SlotStep.guardedNot rfl rfl 14 rfl rfl (by kernel_rfl) (fun _ _ h => h) ?_
            intro tm ws hsame hS hg K hK
            have e7 : tm[7]? = some (.pointer (some ⟨gx, 0, none⟩)) := hsame.2 7 rfl
            obtain ⟨p, a, n, c, N, k0, k1, -, -, hN, hz⟩ := VarI.open (hS.1.x)
            go_simp
            exact hK _ _ (Below.refl _ _) hS ⟨p, a, n, c, N, rfl, hN, hz⟩
          refine List.forall_mem_cons.2 ⟨?_, ?_⟩
          · refine SlotStep.guardedNot rfl rfl 14 rfl rfl (by kernel_rfl) (fun _ _ h => h) ?_
            intro tm ws hsame hS hg K hK
            have e7 : tm[7]? = some (.pointer (some ⟨gx, 0, none⟩)) := hsame.2 7 rfl
            obtain ⟨p, a, n, c, N, k0, k1, -, -, hN, hz⟩ := VarI.open (hS.1.x)
            go_simp
            exact hK _ _ (Below.refl _ _) hS ⟨p, a, n, c, N, rfl, hN, hz⟩
          refine List.forall_mem_cons.2 ⟨?_, ?_⟩
          · refine SlotStep.guardedNot rfl rfl 14 rfl rfl (by kernel_rfl) (fun _ _ h => h) ?_
            intro tm ws hsame hS hg K hK
            obtain ⟨v72, e72, ⟨p72, a72, n72, c72, N72, rfl, g72, z72⟩⟩ := hg 15 (by kernel_rfl) _ 72 rfl rfl
            obtain ⟨v73, e73, ⟨p73, a73, n73, c73, N73, rfl, g73, z73⟩⟩ := hg 16 (by kernel_rfl) _ 73 rfl rfl
            go_simp
            refine (subw_num p72 p73 (NewN.num g72) (NewN.num g73) (by decide)).mono ?_
            rintro e w2 ⟨pR, aR, nR, cR, NR, rfl, hR, hz, -, hb⟩
            exact hK _ _ hb (⟨hS.1.below (hb), hS.2.1.below (hb), hS.2.2.1.below (hb), hS.2.2.2.trans (Below.mono (hb) hS.2.2.2.size)⟩) ⟨pR, aR, nR, cR, NR, rfl, TN.of (hR), by rw [← z72, ← z73] at hz; exact hz⟩
          refine List.forall_mem_cons.2 ⟨?_, ?_⟩
          · refine SlotStep.guardedNot rfl rfl 14 rfl rfl (by kernel_rfl) (fun _ _ h => h) ?_
            intro tm ws hsame hS hg K hK
            obtain ⟨v74, e74, ⟨p74, a74, n74, c74, N74, rfl, g74, z74⟩⟩ := hg 17 (by kernel_rfl) _ 74 rfl rfl
            go_simp
            refine (sign_num p74 (NewN.num g74) (by decide)).mono ?_
            rw [← z74, cmpI_eq (Int.sub_self A)]
            rintro e w2 ⟨rfl, hb⟩
            exact hK _ _ hb (⟨hS.1.below (hb), hS.2.1.below (hb), hS.2.2.1.below (hb), hS.2.2.2.trans (Below.mono (hb) hS.2.2.2.size)⟩) rfl
          refine List.forall_mem_cons.2 ⟨?_, ?_⟩
          · refine SlotStep.guardedNot rfl rfl 14 rfl rfl (by kernel_rfl) (fun _ _ h => h) ?_
            intro tm ws hsame hS hg K hK
            obtain ⟨v75, e75, rfl⟩ := hg 18 (by kernel_rfl) _ 75 rfl rfl
            go_simp
            exact hK _ _ (Below.refl _ _) hS rfl
          refine List.forall_mem_cons.2 ⟨?_, ?_⟩
          · refine SlotStep.plain rfl rfl rfl ?_
            intro tm ws hsame hS hg K hK
            obtain ⟨v71, e71, rfl⟩ := hg 14 (by kernel_rfl) _ 71 rfl rfl
            obtain ⟨v76, e76, rfl⟩ := hg 19 (by kernel_rfl) _ 76 rfl rfl
            go_simp
            exact hK _ _ (Below.refl _ _) hS rfl
          refine List.forall_mem_cons.2 ⟨?_, ?_⟩
          · refine SlotStep.plain rfl rfl rfl ?_
            intro tm ws hsame hS hg K hK
            obtain ⟨v77, e77, rfl⟩ := hg 20 (by kernel_rfl) _ 77 rfl rfl
            go_simp
            exact hK _ _ (Below.refl _ _) hS rfl
          refine List.forall_mem_cons.2 ⟨?_, ?_⟩
          · refine SlotStep.guardedNot rfl rfl 21 rfl rfl (by kernel_rfl) (fun _ _ h => h) ?_
            intro tm ws hsame hS hg K hK
            have e7 : tm[7]? = some (.pointer (some ⟨gx, 0, none⟩)) := hsame.2 7 rfl
            obtain ⟨p, a, n, c, N, k0, k1, -, -, hN, hz⟩ := VarI.open (hS.1.x)
            go_simp
            exact hK _ _ (Below.refl _ _) hS ⟨p, a, n, c, N, rfl, hN, hz⟩
          refine List.forall_mem_cons.2 ⟨?_, ?_⟩
          · refine SlotStep.guardedNot rfl rfl 21 rfl rfl (by kernel_rfl) (fun _ _ h => h) ?_
            intro tm ws hsame hS hg K hK
            have e8 : tm[8]? = some (.pointer (some ⟨gy, 0, none⟩)) := hsame.2 8 rfl
            obtain ⟨p, a, n, c, N, k0, k1, -, -, hN, hz⟩ := VarI.open (hS.1.y)
            go_simp
            exact hK _ _ (Below.refl _ _) hS ⟨p, a, n, c, N, rfl, hN, hz⟩
          refine List.forall_mem_cons.2 ⟨?_, ?_⟩
          · refine SlotStep.guardedNot rfl rfl 21 rfl rfl (by kernel_rfl) (fun _ _ h => h) ?_
            intro tm ws hsame hS hg K hK
            obtain ⟨v79, e79, ⟨p79, a79, n79, c79, N79, rfl, g79, z79⟩⟩ := hg 22 (by kernel_rfl) _ 79 rfl rfl
            obtain ⟨v80, e80, ⟨p80, a80, n80, c80, N80, rfl, g80, z80⟩⟩ := hg 23 (by kernel_rfl) _ 80 rfl rfl
            go_simp
            refine (subw_num p79 p80 (NewN.num g79) (NewN.num g80) (by decide)).mono ?_
            rintro e w2 ⟨pR, aR, nR, cR, NR, rfl, hR, hz, -, hb⟩
            exact hK _ _ hb (⟨hS.1.below (hb), hS.2.1.below (hb), hS.2.2.1.below (hb), hS.2.2.2.trans (Below.mono (hb) hS.2.2.2.size)⟩) ⟨pR, aR, nR, cR, NR, rfl, TN.of (hR), by rw [← z79, ← z80] at hz; exact hz⟩
          refine List.forall_mem_cons.2 ⟨?_, ?_⟩
          · refine SlotStep.guardedNot rfl rfl 21 rfl rfl (by kernel_rfl) (fun _ _ h => h) ?_
            intro tm ws hsame hS hg K hK
            have e8 : tm[8]? = some (.pointer (some ⟨gy, 0, none⟩)) := hsame.2 8 rfl
            obtain ⟨p, a, n, c, N, k0, k1, -, -, hN, hz⟩ := VarI.open (hS.1.y)
            go_simp
            exact hK _ _ (Below.refl _ _) hS ⟨p, a, n, c, N, rfl, hN, hz⟩
          refine List.forall_mem_cons.2 ⟨?_, ?_⟩
          · refine SlotStep.guardedNot rfl rfl 21 rfl rfl (by kernel_rfl) (fun _ _ h => h) ?_
            intro tm ws hsame hS hg K hK
            have e7 : tm[7]? = some (.pointer (some ⟨gx, 0, none⟩)) := hsame.2 7 rfl
            obtain ⟨p, a, n, c, N, k0, k1, -, -, hN, hz⟩ := VarI.open (hS.1.x)
            go_simp
            exact hK _ _ (Below.refl _ _) hS ⟨p, a, n, c, N, rfl, hN, hz⟩
          refine List.forall_mem_cons.2 ⟨?_, ?_⟩
          · refine SlotStep.guardedNot rfl rfl 21 rfl rfl (by kernel_rfl) (fun _ _ h => h) ?_
            intro tm ws hsame hS hg K hK
            obtain ⟨v82, e82, ⟨p82, a82, n82, c82, N82, rfl, g82, z82⟩⟩ := hg 25 (by kernel_rfl) _ 82 rfl rfl
            obtain ⟨v83, e83, ⟨p83, a83, n83, c83, N83, rfl, g83, z83⟩⟩ := hg 26 (by kernel_rfl) _ 83 rfl rfl
            go_simp
            refine (subw_num p82 p83 (NewN.num g82) (NewN.num g83) (by decide)).mono ?_
            rintro e w2 ⟨pR, aR, nR, cR, NR, rfl, hR, hz, -, hb⟩
            exact hK _ _ hb (⟨hS.1.below (hb), hS.2.1.below (hb), hS.2.2.1.below (hb), hS.2.2.2.trans (Below.mono (hb) hS.2.2.2.size)⟩) ⟨pR, aR, nR, cR, NR, rfl, TN.of (hR), by rw [← z82, ← z83] at hz; exact hz⟩
          refine List.forall_mem_cons.2 ⟨?_, ?_⟩
          · refine SlotStep.guardedNot rfl rfl 21 rfl rfl (by kernel_rfl) (fun _ _ h => h) ?_
            intro tm ws hsame hS hg K hK
            obtain ⟨v84, e84, ⟨p84, a84, n84, c84, N84, rfl, g84, z84⟩⟩ := hg 27 (by kernel_rfl) _ 84 rfl rfl
            go_simp
            refine (not_num p84 (NewN.num g84) (by decide)).mono ?_
            rintro e w2 ⟨pR, aR, nR, cR, NR, rfl, hR, hz, -, hb⟩
            exact hK _ _ hb (⟨hS.1.below (hb), hS.2.1.below (hb), hS.2.2.1.below (hb), hS.2.2.2.trans (Below.mono (hb) hS.2.2.2.size)⟩) ⟨pR, aR, nR, cR, NR, rfl, TN.of (hR), by rw [← z84] at hz; exact hz⟩
          refine List.forall_mem_cons.2 ⟨?_, ?_⟩
          · refine SlotStep.guardedNot rfl rfl 21 rfl rfl (by kernel_rfl) (fun _ _ h => h) ?_
            intro tm ws hsame hS hg K hK
            obtain ⟨v81, e81, ⟨p81, a81, n81, c81, N81, rfl, g81, z81⟩⟩ := hg 24 (by kernel_rfl) _ 81 rfl rfl
            obtain ⟨v85, e85, ⟨p85, a85, n85, c85, N85, rfl, g85, z85⟩⟩ := hg 28 (by kernel_rfl) _ 85 rfl rfl
            go_simp
            refine (cmpw_num p81 p85 (NewN.num g81) (NewN.num g85) (by decide) (by decide)).mono ?_
            rw [← z81, ← z85, cmpI_eq (by omega)]
            rintro e w2 ⟨rfl, hb⟩
            exact hK _ _ hb (⟨hS.1.below (hb), hS.2.1.below (hb), hS.2.2.1.below (hb), hS.2.2.2.trans (Below.mono (hb) hS.2.2.2.size)⟩) rfl
          refine List.forall_mem_cons.2 ⟨?_, ?_⟩
          · refine SlotStep.guardedNot rfl rfl 21 rfl rfl (by kernel_rfl) (fun _ _ h => h) ?_
            intro tm ws hsame hS hg K hK
            obtain ⟨v86, e86, rfl⟩ := hg 29 (by kernel_rfl) _ 86 rfl rfl
            go_simp
            exact hK _ _ (Below.refl _ _) hS rfl
          refine List.forall_mem_cons.2 ⟨?_, ?_⟩
          · refine SlotStep.plain rfl rfl rfl ?_
            intro tm ws hsame hS hg K hK
            obtain ⟨v78, e78, rfl⟩ := hg 21 (by kernel_rfl) _ 78 rfl rfl
            obtain ⟨v87, e87, rfl⟩ := hg 30 (by kernel_rfl) _ 87 rfl rfl
            go_simp
            exact hK _ _ (Below.refl _ _) hS rfl
          refine List.forall_mem_cons.2 ⟨?_, ?_⟩
          · refine SlotStep.plain rfl rfl rfl ?_
            intro tm ws hsame hS hg K hK
            obtain ⟨v88, e88, rfl⟩ := hg 31 (by kernel_rfl) _ 88 rfl rfl
            go_simp
            exact hK _ _ (Below.refl _ _) hS rfl
          refine List.forall_mem_cons.2 ⟨?_, ?_⟩
          · refine SlotStep.guardedNot rfl rfl 32 rfl rfl (by kernel_rfl) (fun _ _ h => h) ?_
            intro tm ws hsame hS hg K hK
            have e7 : tm[7]? = some (.pointer (some ⟨gx, 0, none⟩)) := hsame.2 7 rfl
            obtain ⟨p, a, n, c, N, k0, k1, -, -, hN, hz⟩ := VarI.open (hS.1.x)
            go_simp
            exact hK _ _ (Below.refl _ _) hS ⟨p, a, n, c, N, rfl, hN, hz⟩
          refine List.forall_mem_cons.2 ⟨?_, ?_⟩
          · refine SlotStep.guardedNot rfl rfl 32 rfl rfl (by kernel_rfl) (fun _ _ h => h) ?_
            intro tm ws hsame hS hg K hK
            have e8 : tm[8]? = some (.pointer (some ⟨gy, 0, none⟩)) := hsame.2 8 rfl
            obtain ⟨p, a, n, c, N, k0, k1, -, -, hN, hz⟩ := VarI.open (hS.1.y)
            go_simp
            exact hK _ _ (Below.refl _ _) hS ⟨p, a, n, c, N, rfl, hN, hz⟩
          refine List.forall_mem_cons.2 ⟨?_, ?_⟩
          · refine SlotStep.guardedNot rfl rfl 32 rfl rfl (by kernel_rfl) (fun _ _ h => h) ?_
            intro tm ws hsame hS hg K hK
            obtain ⟨v91, e91, ⟨p91, a91, n91, c91, N91, rfl, g91, z91⟩⟩ := hg 34 (by kernel_rfl) _ 91 rfl rfl
            go_simp
            exact hK _ _ (below_alloc _ _) (⟨hS.1.below (below_alloc _ _), hS.2.1.below (below_alloc _ _), hS.2.2.1.below (below_alloc _ _), hS.2.2.2.trans (Below.mono (below_alloc _ _) hS.2.2.2.size)⟩) ⟨_, p91, a91, n91, c91, N91, rfl, new_cell.1, new_cell.2, NewN.below g91 (below_alloc _ _), z91⟩
          refine List.forall_mem_cons.2 ⟨?_, ?_⟩
          · refine SlotStep.guardedNot rfl rfl 32 rfl rfl (by kernel_rfl) (fun _ _ h => h) ?_
            intro tm ws hsame hS hg K hK
            obtain ⟨v90, e90, ⟨p90, a90, n90, c90, N90, rfl, g90, z90⟩⟩ := hg 33 (by kernel_rfl) _ 90 rfl rfl
            obtain ⟨v92, e92, ⟨b92, p92, a92, n92, c92, N92, rfl, x92, y92, g92, z92⟩⟩ := hg 35 (by kernel_rfl) _ 92 rfl rfl
            go_simp
            refine (mulw1_in p90 p92 x92 y92 (NewN.num g90) (NewN.num g92) (by decide)).mono ?_
            rintro e w2 ⟨pR, aR, nR, cR, NR, rfl, hR, hz, -, hb⟩
            exact hK _ _ hb (⟨hS.1.below (hb), hS.2.1.below (hb), hS.2.2.1.below (hb), hS.2.2.2.trans (Below.mono (hb) hS.2.2.2.size)⟩) ⟨pR, aR, nR, cR, NR, rfl, TN.of (hR), by rw [← z90, ← z92] at hz; exact hz⟩
          refine List.forall_mem_cons.2 ⟨?_, ?_⟩
          · refine SlotStep.guardedNot rfl rfl 32 rfl rfl (by kernel_rfl) (fun _ _ h => h) ?_
            intro tm ws hsame hS hg K hK
            obtain ⟨v93, e93, ⟨p93, a93, n93, c93, N93, rfl, g93, z93⟩⟩ := hg 36 (by kernel_rfl) _ 93 rfl rfl
            go_simp
            refine (sign_num p93 (NewN.num g93) (by decide)).mono ?_
            rw [← z93, HSXY.out]
            rintro e w2 ⟨rfl, hb⟩
            exact hK _ _ hb (⟨hS.1.below (hb), hS.2.1.below (hb), hS.2.2.1.below (hb), hS.2.2.2.trans (Below.mono (hb) hS.2.2.2.size)⟩) rfl
          refine List.forall_mem_cons.2 ⟨?_, ?_⟩
          · refine SlotStep.guardedNot rfl rfl 32 rfl rfl (by kernel_rfl) (fun _ _ h => h) ?_
            intro tm ws hsame hS hg K hK
            have e7 : tm[7]? = some (.pointer (some ⟨gx, 0, none⟩)) := hsame.2 7 rfl
            obtain ⟨p, a, n, c, N, k0, k1, -, -, hN, hz⟩ := VarI.open (hS.1.x)
            go_simp
            exact hK _ _ (Below.refl _ _) hS ⟨p, a, n, c, N, rfl, hN, hz⟩
          refine List.forall_mem_cons.2 ⟨?_, ?_⟩
          · refine SlotStep.guardedNot rfl rfl 32 rfl rfl (by kernel_rfl) (fun _ _ h => h) ?_
            intro tm ws hsame hS hg K hK
            obtain ⟨v95, e95, ⟨p95, a95, n95, c95, N95, rfl, g95, z95⟩⟩ := hg 38 (by kernel_rfl) _ 95 rfl rfl
            go_simp
            refine (sign_num p95 (NewN.num g95) (by decide)).mono ?_
            rw [← z95, HSX.out]
            rintro e w2 ⟨rfl, hb⟩
            exact hK _ _ hb (⟨hS.1.below (hb), hS.2.1.below (hb), hS.2.2.1.below (hb), hS.2.2.2.trans (Below.mono (hb) hS.2.2.2.size)⟩) rfl
          refine List.forall_mem_cons.2 ⟨?_, ?_⟩
          · refine SlotStep.guardedNot rfl rfl 32 rfl rfl (by kernel_rfl) (fun _ _ h => h) ?_
            intro tm ws hsame hS hg K hK
            have e8 : tm[8]? = some (.pointer (some ⟨gy, 0, none⟩)) := hsame.2 8 rfl
            obtain ⟨p, a, n, c, N, k0, k1, -, -, hN, hz⟩ := VarI.open (hS.1.y)
            go_simp
            exact hK _ _ (Below.refl _ _) hS ⟨p, a, n, c, N, rfl, hN, hz⟩
          refine List.forall_mem_cons.2 ⟨?_, ?_⟩
          · refine SlotStep.guardedNot rfl rfl 32 rfl rfl (by kernel_rfl) (fun _ _ h => h) ?_
            intro tm ws hsame hS hg K hK
            obtain ⟨v97, e97, ⟨p97, a97, n97, c97, N97, rfl, g97, z97⟩⟩ := hg 40 (by kernel_rfl) _ 97 rfl rfl
            go_simp
            refine (sign_num p97 (NewN.num g97) (by decide)).mono ?_
            rw [← z97, HSY.out]
            rintro e w2 ⟨rfl, hb⟩
            exact hK _ _ hb (⟨hS.1.below (hb), hS.2.1.below (hb), hS.2.2.1.below (hb), hS.2.2.2.trans (Below.mono (hb) hS.2.2.2.size)⟩) rfl
          refine List.forall_mem_cons.2 ⟨?_, ?_⟩
          · refine SlotStep.guardedNot rfl rfl 32 rfl rfl (by kernel_rfl) (fun _ _ h => h) ?_
            intro tm ws hsame hS hg K hK
            obtain ⟨v96, e96, rfl⟩ := hg 39 (by kernel_rfl) _ 96 rfl rfl
            obtain ⟨v98, e98, rfl⟩ := hg 41 (by kernel_rfl) _ 98 rfl rfl
            go_simp
            rw [HWR.out]
            exact hK _ _ (Below.refl _ _) hS rfl
          refine List.forall_mem_cons.2 ⟨?_, ?_⟩
          · refine SlotStep.guardedNot rfl rfl 32 rfl rfl (by kernel_rfl) (fun _ _ h => h) ?_
            intro tm ws hsame hS hg K hK
            obtain ⟨v94, e94, rfl⟩ := hg 37 (by kernel_rfl) _ 94 rfl rfl
            obtain ⟨v99, e99, rfl⟩ := hg 42 (by kernel_rfl) _ 99 rfl rfl
            go_simp
            exact hK _ _ (Below.refl _ _) hS rfl
          refine List.forall_mem_cons.2 ⟨?_, ?_⟩
          · refine SlotStep.plain rfl rfl rfl ?_
            intro tm ws hsame hS hg K hK
            obtain ⟨v89, e89, rfl⟩ := hg 32 (by kernel_rfl) _ 89 rfl rfl
            obtain ⟨v100, e100, rfl⟩ := hg 43 (by kernel_rfl) _ 100 rfl rfl
            go_simp
            exact hK _ _ (Below.refl _ _) hS rfl
          exact fun _ h => nomatch h
        case fin =>
          intro tm w8 hsame hS hgot
          obtain ⟨u, hu, htm⟩ := hsame.form (by kernel_rfl)
          obtain ⟨v101, e101, rfl⟩ := hgot 44 _ 101 rfl rfl
          have h101 := hu _ _ e101
          obtain ⟨hV8, -, -, -⟩ := hS
          clear hgot hu hsame e101 hV hrd hEI hel20 hnone hsome HWR HSXY HSX HSY
          rw [htm]
          clear htm tm
          simp only [List.foldl_cons, List.foldl_nil, List.setIfInBounds_toArray, List.set_cons_zero, List.set_cons_succ, h101]
          clear h101
          obtain ⟨pX1, aX1, nX1, cX1, NX1, kx0, kx1, -, -, hX1, hzX⟩ := hV8.x.open
          obtain ⟨pY1, aY1, nY1, cY1, NY1, ky0, ky1, -, -, hY1, hzY⟩ := hV8.y.open
          have HZX1 := Lib.hid hzX
          have HZY1 := Lib.hid hzY
          by_cases hB : B = 0
          · have hBz : (B == 0) = true := by simp [hB]
            obtain rfl : NY1 = 0 := by rw [hB] at hzY; cases pY1 <;> simp [sg] at hzY <;> omega
            clear hzX hzY hB
            go_wp2_with fail
            refine (quo_zero pX1 pY1 false (NewN.num hX1) (NewN.num hY1)).mono ?_
            rintro e w9 ⟨rfl, hb9⟩
            have hb8a := below_alloc w9 (.cells #[.bool false, .slice none 0 0] 45)
            have hV9 := (hV8.below hb9).below hb8a
            obtain ⟨pX2, aX2, nX2, cX2, NX2, lx0, lx1, -, -, hX2, -⟩ := hV9.x.open
            have hY2 := NewN.below (NewN.below hY1 hb9) hb8a
            have ly0 := cell_after hb8a (cell_after hb9 ky0)
            have ly1 := cell_after hb8a (cell_after hb9 ky1)
            clear kx0 kx1 ky0 ky1 HZX1 HZY1
            go_wp2_with fail
            refine (quo_zero pX2 pY1 true (NewN.num hX2) (NewN.num hY2)).mono ?_
            rintro e w10 ⟨rfl, hb10⟩
            have hbf := (hV9.below hb10).b
            have hbg := hbf.alloc hbf.size (.cells #[.bool false, .slice none 0 0] 45)
            clear lx0 lx1 ly0 ly1 hV8 hV9
            go_wp2_with fail
            go_ret
            exact ⟨rfl, hbg⟩
          · have hBz : (B == 0) = false := by simp [hB]
            have hNY : NY1 ≠ 0 := by intro h; rw [h] at hzY; apply hB; rw [hzY]; cases pY1 <;> rfl
            have hMY : 0 < NY1 := by have := (NewN.num hY1).nonneg; omega
            have HNY := Lib.hid hNY
            have HMY := Lib.hid hMY
            clear hzX hzY hB hNY hMY
            go_wp2_with fail
            refine (quo_num pX1 pY1 false (NewN.num hX1) (NewN.num hY1) HNY.out (by decide) (by decide) (Nat.le_refl _) (show 1 + 1 ≤ 2 by decide) (by decide)).mono ?_
            rintro e w9 ⟨pD, aD, nD, cD, ND, rfl, hD, hzD, -, hb9⟩
            have hfl := quo_floor HMY.out HZX1.out HZY1.out hzD.symm
            obtain ⟨D, hDe⟩ : ∃ D, D = sg pD ND := ⟨_, rfl⟩
            rw [← hDe] at hfl
            have HFL := Lib.hid hfl
            have hd0 := (VarI.new (p := pD) (TN.of hD)).eq hDe.symm
            have b9 := below_alloc w9 (.cells #[.bool pD, .slice aD nD cD] 45)
            have hV9 := (hV8.below hb9).below b9
            have lx0 := cell_after b9 (cell_after hb9 kx0)
            have lx1 := cell_after b9 (cell_after hb9 kx1)
            have ly0 := cell_after b9 (cell_after hb9 ky0)
            have ly1 := cell_after b9 (cell_after hb9 ky1)
            have hX2 := NewN.below (NewN.below hX1 hb9) b9
            have hY2 := NewN.below (NewN.below hY1 hb9) b9
            obtain ⟨gd, hgd⟩ : ∃ gd, gd = w9.heap.size := ⟨_, rfl⟩
            rw [← hgd] at hd0
            have HGD := Lib.hid hgd
            clear kx0 kx1 ky0 ky1 hX1 hY1 hV8 hD hzD hDe hfl hgd hb9 b9
            go_wp2_with fail
            rw [← HGD.out]
            refine (quo_num pX1 pY1 true (NewN.num hX2) (NewN.num hY2) HNY.out (by decide) (by decide) (Nat.le_refl _) (show 1 + 1 ≤ 2 by decide) (by decide)).mono ?_
            rintro e w10 ⟨pU, aU, nU, cU, NU, rfl, hU, hzU, -, hb10⟩
            have hce := quo_ceil HMY.out HZX1.out HZY1.out hzU.symm
            obtain ⟨U, hUe⟩ : ∃ U, U = sg pU NU := ⟨_, rfl⟩
            rw [← hUe] at hce
            have hlaw := quo_law HFL.out hce
            have HLAW := Lib.hid hlaw
            have hu0 := (VarI.new (p := pU) (TN.of hU)).eq hUe.symm
            have b10 := below_alloc w10 (.cells #[.bool pU, .slice aU nU cU] 45)
            have hV10 := (hV9.below hb10).below b10
            have hd := (hd0.below hb10).below b10
            obtain ⟨wB, hwB⟩ : ∃ wB, wB = w10.alloc (.cells #[.bool pU, .slice aU nU cU] 45) := ⟨_, rfl⟩
            obtain ⟨gu, hgu⟩ : ∃ gu, gu = w10.heap.size := ⟨_, rfl⟩
            rw [← hwB] at hu0 hV10 hd
            rw [← hgu] at hu0
            have HGU := Lib.hid hgu
            have HWB := Lib.hid hwB
            have hx := hV10.x
            have hy := hV10.y
            have hbB := hV10.b
            have hu := hu0
            have lgy := hy.lt
            have lgd := hd.lt
            have lgu := hu.lt
            clear lx0 lx1 ly0 ly1 hX2 hY2 hV9 hV10 hU hzU hUe hce hlaw hgu hwB hb10 b10 hd0 hu0 HFL HNY HMY HZX1 HZY1
            go_upto_region 18 with fail
            rw [← HGU.out, ← HWB.out]
            refine wp_region_slots_tail (by kernel_rfl) 7 [122, 123, 124, 125, 126, 127, 18] (fun w' => VarI w' gx A 1 ∧ VarI w' gy B 1 ∧ VarI w' gd D 2 ∧ VarI w' gu U 2 ∧ Below wB.heap.size wB w') (Said [IsT A 1, IsT D 2, IsT B 1, IsB B 1, IsT (D * B) 4, IsT (A - D * B) 5, IsNew wB.heap.size]) (by kernel_rfl) (by kernel_rfl) (by kernel_rfl) (by kernel_rfl) (by kernel_rfl) (Said.keep ?keep) ⟨hx.below (bdn (Below.refl _ _) 1), hy.below (bdn (Below.refl _ _) 1), hd.below (bdn (Below.refl _ _) 1), hu.below (bdn (Below.refl _ _) 1), bdn (Below.refl _ _) 1⟩ (l := [0, 1, 2, 3, 4, 5, 6]) (by kernel_rfl) ?step ?fin
            case keep =>
              refine List.forall_mem_cons.2 ⟨IsT.keeps _ _, ?_⟩
              refine List.forall_mem_cons.2 ⟨IsT.keeps _ _, ?_⟩
              refine List.forall_mem_cons.2 ⟨IsT.keeps _ _, ?_⟩
              refine List.forall_mem_cons.2 ⟨IsB.keeps _ _, ?_⟩
              refine List.forall_mem_cons.2 ⟨IsT.keeps _ _, ?_⟩
              refine List.forall_mem_cons.2 ⟨IsT.keeps _ _, ?_⟩
              refine List.forall_mem_cons.2 ⟨IsNew.keeps _, ?_⟩
              exact fun _ h => nomatch h
            case step =>
              refine List.forall_mem_cons.2 ⟨?_, ?_⟩
              · refine SlotStep.plain rfl rfl rfl ?_
                intro tm ws hsame hS hg K hK
                have e7 : tm[7]? = some (.pointer (some ⟨gx, 0, none⟩)) := hsame.2 7 rfl
                obtain ⟨p, a, n, c, N, k0, k1, -, -, hN, hz⟩ := VarI.open (hS.1)
                go_simp
                exact hK _ _ (Below.refl _ _) hS ⟨p, a, n, c, N, rfl, hN, hz⟩
              refine List.forall_mem_cons.2 ⟨?_, ?_⟩
              · refine SlotStep.plain rfl rfl rfl ?_
                intro tm ws hsame hS hg K hK
                have e14 : tm[14]? = some (.pointer (some ⟨gd, 0, none⟩)) := hsame.2 14 rfl
                obtain ⟨p, a, n, c, N, k0, k1, -, -, hN, hz⟩ := VarI.open (hS.2.2.1)
                go_simp
                exact hK _ _ (Below.refl _ _) hS ⟨p, a, n, c, N, rfl, hN, hz⟩
              refine List.forall_mem_cons.2 ⟨?_, ?_⟩
              · refine SlotStep.plain rfl rfl rfl ?_
                intro tm ws hsame hS hg K hK
                have e8 : tm[8]? = some (.pointer (some ⟨gy, 0, none⟩)) := hsame.2 8 rfl
                obtain ⟨p, a, n, c, N, k0, k1, -, -, hN, hz⟩ := VarI.open (hS.2.1)
                go_simp
                exact hK _ _ (Below.refl _ _) hS ⟨p, a, n, c, N, rfl, hN, hz⟩
              refine List.forall_mem_cons.2 ⟨?_, ?_⟩
              · refine SlotStep.plain rfl rfl rfl ?_
                intro tm ws hsame hS hg K hK
                obtain ⟨v124, e124, ⟨p124, a124, n124, c124, N124, rfl, g124, z124⟩⟩ := hg 2 (by kernel_rfl) _ 124 rfl rfl
                go_simp
                exact hK _ _ (below_alloc _ _) (⟨hS.1.below (below_alloc _ _), hS.2.1.below (below_alloc _ _), hS.2.2.1.below (below_alloc _ _), hS.2.2.2.1.below (below_alloc _ _), hS.2.2.2.2.trans (Below.mono (below_alloc _ _) hS.2.2.2.2.size)⟩) ⟨_, p124, a124, n124, c124, N124, rfl, new_cell.1, new_cell.2, NewN.below g124 (below_alloc _ _), z124⟩
              refine List.forall_mem_cons.2 ⟨?_, ?_⟩
              · refine SlotStep.plain rfl rfl rfl ?_
                intro tm ws hsame hS hg K hK
                obtain ⟨v123, e123, ⟨p123, a123, n123, c123, N123, rfl, g123, z123⟩⟩ := hg 1 (by kernel_rfl) _ 123 rfl rfl
                obtain ⟨v125, e125, ⟨b125, p125, a125, n125, c125, N125, rfl, x125, y125, g125, z125⟩⟩ := hg 3 (by kernel_rfl) _ 125 rfl rfl
                go_simp
                refine (mulw1_in p123 p125 x125 y125 (NewN.num g123) ((NewN.num g125).mono (show 1 ≤ 2 by decide)) (by decide)).mono ?_
                rintro e w2 ⟨pR, aR, nR, cR, NR, rfl, hR, hz, -, hb⟩
                exact hK _ _ hb (⟨hS.1.below (hb), hS.2.1.below (hb), hS.2.2.1.below (hb), hS.2.2.2.1.below (hb), hS.2.2.2.2.trans (Below.mono (hb) hS.2.2.2.2.size)⟩) ⟨pR, aR, nR, cR, NR, rfl, TN.of (hR), by rw [← z123, ← z125] at hz; exact hz⟩
              refine List.forall_mem_cons.2 ⟨?_, ?_⟩
              · refine SlotStep.plain rfl rfl rfl ?_
                intro tm ws hsame hS hg K hK
                obtain ⟨v122, e122, ⟨p122, a122, n122, c122, N122, rfl, g122, z122⟩⟩ := hg 0 (by kernel_rfl) _ 122 rfl rfl
                obtain ⟨v126, e126, ⟨p126, a126, n126, c126, N126, rfl, g126, z126⟩⟩ := hg 4 (by kernel_rfl) _ 126 rfl rfl
                go_simp
                refine (subw_num p122 p126 ((NewN.num g122).mono (show 1 ≤ 4 by decide)) (NewN.num g126) (by decide)).mono ?_
                rintro e w2 ⟨pR, aR, nR, cR, NR, rfl, hR, hz, -, hb⟩
                exact hK _ _ hb (⟨hS.1.below (hb), hS.2.1.below (hb), hS.2.2.1.below (hb), hS.2.2.2.1.below (hb), hS.2.2.2.2.trans (Below.mono (hb) hS.2.2.2.2.size)⟩) ⟨pR, aR, nR, cR, NR, rfl, TN.of (hR), by rw [← z122, ← z126] at hz; exact hz⟩
              refine List.forall_mem_cons.2 ⟨?_, ?_⟩
              · refine SlotStep.plain rfl rfl rfl ?_
                intro tm ws hsame hS hg K hK
                go_simp
                exact hK _ _ (below_alloc _ _) (⟨hS.1.below (below_alloc _ _), hS.2.1.below (below_alloc _ _), hS.2.2.1.below (below_alloc _ _), hS.2.2.2.1.below (below_alloc _ _), hS.2.2.2.2.trans (Below.mono (below_alloc _ _) hS.2.2.2.2.size)⟩) ⟨_, rfl, heap_alloc_new _ _, hS.2.2.2.2.size⟩
              exact fun _ h => nomatch h
            case fin =>
              intro tm w11 hsame hS hgot
              obtain ⟨u, hu8, htm⟩ := hsame.form (by kernel_rfl)
              obtain ⟨v18, e18, gr, rfl, hgr, hgrb⟩ := hgot 6 (by decide) _ 18 rfl rfl
              obtain ⟨v127, e127, pR, aR, nR, cR, NR, rfl, gR, zR⟩ := hgot 5 (by decide) _ 127 rfl rfl
              have h18 := hu8 _ _ e18
              have h127 := hu8 _ _ e127
              obtain ⟨hx1, hy1, hd1, hu1, hb1⟩ := hS
              obtain ⟨s0, s1, f0, f1⟩ := slot2 hgr
              have o1 := slot_only (w := w11) (g := gr) (.bool pR) (.slice aR nR cR)
              have hy2 := hy1.other hgr (by decide) o1 (by omega)
              have hd2 := hd1.other hgr (by decide) o1 (by omega)
              have hu2 := hu1.other hgr (by decide) o1 (by omega)
              have hr2 := (VarI.set hgr (p := pR) gR).eq zR.symm
              have hb2 : Below w.heap.size w ((w11.setCell ⟨gr, 0, none⟩ (.bool pR)).setCell ⟨gr, 1, none⟩ (.slice aR nR cR)) := (hbB.trans (hb1.mono hbB.size)).trans (o1.below (by have := hbB.size; omega) (by have := hbB.size; have := hb1.size; omega))
              clear hgot hu8 hsame e18 e127 hx1 hy1 hd1 hu1 hb1 o1 hgr gR zR hx hy hd hu lgy lgd lgu
              rw [htm]
              clear htm tm
              simp only [List.foldl_cons, List.foldl_nil, List.setIfInBounds_toArray, List.set_cons_zero, List.set_cons_succ, h18, h127, List.drop_succ_cons, List.drop_zero]
              clear h18 h127
              obtain ⟨pU2, aU2, nU2, cU2, NU2, ku0, ku1, -, -, hU2, hzU2⟩ := hu2.open
              obtain ⟨pD2, aD2, nD2, cD2, ND2, kd0, kd1, -, -, hD2, hzD2⟩ := hd2.open
              have HZU2 := Lib.hid hzU2
              have HZD2 := Lib.hid hzD2
              clear hzU2 hzD2
              go_wp2_with fail
              refine (subw_num pU2 pD2 (NewN.num hU2) (NewN.num hD2) (by decide)).mono ?_
              rintro e w12 ⟨pE, aE, nE, cE, NE, rfl, hE, hzE, -, hb12⟩
              have hE0 := (VarI.new (p := pE) (TN.of hE)).eq (show sg pE NE = U - D by rw [← hzE, HZU2.out, HZD2.out])
              have b13 := below_alloc w12 (.cells #[.bool pE, .slice aE nE cE] 45)
              have hy := (hy2.below hb12).below b13
              have hr := (hr2.below hb12).below b13
              have hbf := (hb2.trans (hb12.mono hb2.size)).trans (b13.mono (hb2.trans (hb12.mono hb2.size)).size)
              obtain ⟨R, hRe⟩ : ∃ R, R = A - D * B := ⟨_, rfl⟩
              obtain ⟨E, hEe⟩ : ∃ E, E = U - D := ⟨_, rfl⟩
              obtain ⟨gn, hgn⟩ : ∃ gn, gn = w12.heap.size := ⟨_, rfl⟩
              have hn : VarI (w12.alloc (.cells #[.bool pE, .slice aE nE cE] 45)) gn E 3 := by rw [hgn, hEe]; exact hE0
              rw [← hRe] at hr
              have hlaw := HLAW.out
              rw [← hRe, ← hEe] at hlaw
              obtain ⟨q1, q2, q3, q4, q5⟩ := hlaw
              obtain ⟨sr, hsr⟩ : ∃ sr, cmpI R 0 = sr := ⟨_, rfl⟩
              obtain ⟨sb, hsb⟩ : ∃ sb, cmpI B 0 = sb := ⟨_, rfl⟩
              obtain ⟨sn, hsn⟩ : ∃ sn, cmpI E 0 = sn := ⟨_, rfl⟩
              obtain ⟨c1, hc1⟩ : ∃ c1, cmpI E 1 = c1 := ⟨_, rfl⟩
              obtain ⟨srb, hsrb⟩ : ∃ srb, sr * sb = srb := ⟨_, rfl⟩
              have hrR := cmpI_range R 0
              have hrB := cmpI_range B 0
              rw [hsr] at hrR
              rw [hsb] at hrB
              rw [hsr, hsb, hsrb] at q1
              have hwr : IntKind.i64.wrap (sr * sb) = srb := by
                rw [← hsrb, IntKind.wrap_i64]
                rcases hrR with h | h | h <;> rcases hrB with g | g | g <;> rw [h, g] <;> decide
              have hc1' : c1 ≤ 0 := by
                rw [← hc1]
                rcases Int.lt_or_eq_of_le q5 with h | h
                · rw [cmpI_lt h]; decide
                · rw [cmpI_eq h]; decide
              have hsn' : 0 ≤ sn := by
                rw [← hsn]
                rcases Int.lt_or_eq_of_le q4 with h | h
                · rw [cmpI_gt h]; decide
                · rw [cmpI_eq h.symm]; decide
              obtain ⟨tz, htz⟩ : ∃ tz, (sr == 0) = tz := ⟨_, rfl⟩
              have htz2 : (sn == 0) = tz := by
                rw [← htz, ← hsr, ← hsn]
                by_cases h : R = 0
                · rw [cmpI_eq h, cmpI_eq (q3.1 h)]
                · have h2 : E ≠ 0 := fun e => h (q3.2 e)
                  have h3 : cmpI R 0 ≠ 0 := fun e => h (cmpI_sign.2.1.1 e)
                  have h4 : cmpI E 0 ≠ 0 := fun e => h2 (cmpI_sign.2.1.1 e)
                  rw [beq_eq_false_iff_ne.2 h4, beq_eq_false_iff_ne.2 h3]
              have HSR := Lib.hid hsr
              have HSB := Lib.hid hsb
              have HSN := Lib.hid hsn
              have HC1 := Lib.hid hc1
              have HWR := Lib.hid hwr
              have HLT := Lib.hid (cmpI_lt q2)
              have HD1 : Hid (decide (0 ≤ srb) = true) := decide_eq_true q1
              have HD2 : Hid (decide (c1 ≤ 0) = true) := decide_eq_true hc1'
              have HD3 : Hid (decide (0 ≤ sn) = true) := decide_eq_true hsn'
              have HZ1 := Lib.hid htz
              have HZ2 := Lib.hid htz2
              clear hRe hEe hE0 hE hzE hb12 hy2 hd2 hu2 hr2 hb2 hU2 hD2 ku0 ku1 kd0 kd1 HZU2 HZD2 s0 s1 f0 f1 b13 q1 q2 q3 q4 q5 hsr hsb hsn hc1 hsrb hrR hrB hwr hc1' hsn' htz htz2 HLAW
              go_upto_region 20 with fail
              rw [← hgn]
              clear hgn
              refine wp_region_slots (by kernel_rfl) [131, 132, 133, 134, 135, 136, 137, 138, 139, 140, 141, 142, 143, 144, 145, 146, 147, 148, 149, 150, 151, 152, 153, 154, 155, 156, 157, 158, 159, 160, 161, 162, 163, 164, 165, 166, 167, 168, 169, 170, 171, 172, 173, 174, 6] (fun w' => VarI w' gy B 1 ∧ VarI w' gr R 5 ∧ VarI w' gn E 3 ∧ Below w.heap.size w w') (Said [Is (.bool true), Is (.bool true), Is (.bool true), Is (.bool true), Is (.bool true), IsT R 5, Is (.int .i64 sr), IsT B 1, Is (.int .i64 sb), Is (.int .i64 srb), Is (.bool true), Is (.bool true), Is (.bool true), IsT R 5, IsT R 5, IsB R 5, IsT (R * R) 10, IsT B 1, IsT B 1, IsB B 1, IsT (B * B) 2, Is (.int .i64 (-1)), Is (.bool true), Is (.bool true), Is (.bool true), IsT R 5, Is (.int .i64 sr), Is (.bool tz), IsT E 3, Is (.int .i64 sn), Is (.bool tz), Is (.bool true), Is (.bool true), Is (.bool true), IsT E 3, IsT 1 1, Is (.int .i64 c1), Is (.bool true), Is (.bool true), Is (.bool true), IsT E 3, Is (.int .i64 sn), Is (.bool true), Is (.bool true), Is (.bool true)]) (by kernel_rfl) (by kernel_rfl) (by kernel_rfl) (by kernel_rfl) (Said.keep ?keep) ⟨hy.below (bdn (Below.refl _ _) 1), hr.below (bdn (Below.refl _ _) 1), hn.below (bdn (Below.refl _ _) 1), bdn hbf 1⟩ (l := [0, 1, 2, 3, 4, 5, 6, 7, 8, 9, 10, 11, 12, 13, 14, 15, 16, 17, 18, 19, 20, 21, 22, 23, 24, 25, 26, 27, 28, 29, 30, 31, 32, 33, 34, 35, 36, 37, 38, 39, 40, 41, 42, 43, 44]) (by kernel_rfl) ?step ?fin
              case keep =>
                refine List.forall_mem_cons.2 ⟨Is.keeps _, ?_⟩
                refine List.forall_mem_cons.2 ⟨Is.keeps _, ?_⟩
                refine List.forall_mem_cons.2 ⟨Is.keeps _, ?_⟩
                refine List.forall_mem_cons.2 ⟨Is.keeps _, ?_⟩
                refine List.forall_mem_cons.2 ⟨Is.keeps _, ?_⟩
                refine List.forall_mem_cons.2 ⟨IsT.keeps _ _, ?_⟩
                refine List.forall_mem_cons.2 ⟨Is.keeps _, ?_⟩
                refine List.forall_mem_cons.2 ⟨IsT.keeps _ _, ?_⟩
                refine List.forall_mem_cons.2 ⟨Is.keeps _, ?_⟩
                refine List.forall_mem_cons.2 ⟨Is.keeps _, ?_⟩
                refine List.forall_mem_cons.2 ⟨Is.keeps _, ?_⟩
                refine List.forall_mem_cons.2 ⟨Is.keeps _, ?_⟩
                refine List.forall_mem_cons.2 ⟨Is.keeps _, ?_⟩
                refine List.forall_mem_cons.2 ⟨IsT.keeps _ _, ?_⟩
                refine List.forall_mem_cons.2 ⟨IsT.keeps _ _, ?_⟩
                refine List.forall_mem_cons.2 ⟨IsB.keeps _ _, ?_⟩
                refine List.forall_mem_cons.2 ⟨IsT.keeps _ _, ?_⟩
                refine List.forall_mem_cons.2 ⟨IsT.keeps _ _, ?_⟩
                refine List.forall_mem_cons.2 ⟨IsT.keeps _ _, ?_⟩
                refine List.forall_mem_cons.2 ⟨IsB.keeps _ _, ?_⟩
                refine List.forall_mem_cons.2 ⟨IsT.keeps _ _, ?_⟩
                refine List.forall_mem_cons.2 ⟨Is.keeps _, ?_⟩
                refine List.forall_mem_cons.2 ⟨Is.keeps _, ?_⟩
                refine List.forall_mem_cons.2 ⟨Is.keeps _, ?_⟩
                refine List.forall_mem_cons.2 ⟨Is.keeps _, ?_⟩
                refine List.forall_mem_cons.2 ⟨IsT.keeps _ _, ?_⟩
                refine List.forall_mem_cons.2 ⟨Is.keeps _, ?_⟩
                refine List.forall_mem_cons.2 ⟨Is.keeps _, ?_⟩
                refine List.forall_mem_cons.2 ⟨IsT.keeps _ _, ?_⟩
                refine List.forall_mem_cons.2 ⟨Is.keeps _, ?_⟩
                refine List.forall_mem_cons.2 ⟨Is.keeps _, ?_⟩
                refine List.forall_mem_cons.2 ⟨Is.keeps _, ?_⟩
                refine List.forall_mem_cons.2 ⟨Is.keeps _, ?_⟩
                refine List.forall_mem_cons.2 ⟨Is.keeps _, ?_⟩
                refine List.forall_mem_cons.2 ⟨IsT.keeps _ _, ?_⟩
                refine List.forall_mem_cons.2 ⟨IsT.keeps _ _, ?_⟩
                refine List.forall_mem_cons.2 ⟨Is.keeps _, ?_⟩
                refine List.forall_mem_cons.2 ⟨Is.keeps _, ?_⟩
                refine List.forall_mem_cons.2 ⟨Is.keeps _, ?_⟩
                refine List.forall_mem_cons.2 ⟨Is.keeps _, ?_⟩
                refine List.forall_mem_cons.2 ⟨IsT.keeps _ _, ?_⟩
                refine List.forall_mem_cons.2 ⟨Is.keeps _, ?_⟩
                refine List.forall_mem_cons.2 ⟨Is.keeps _, ?_⟩
                refine List.forall_mem_cons.2 ⟨Is.keeps _, ?_⟩
                refine List.forall_mem_cons.2 ⟨Is.keeps _, ?_⟩
                exact fun _ h => nomatch h
              case step =>
                refine List.forall_mem_cons.2 ⟨?_, ?_⟩
                · refine SlotStep.plain rfl rfl rfl ?_
                  intro tm ws hsame hS hg K hK
                  have e15 : tm[15]? = some (.bool true) := hsame.2 15 rfl
                  go_simp
                  exact hK _ _ (Below.refl _ _) hS rfl
                refine List.forall_mem_cons.2 ⟨?_, ?_⟩
                · refine SlotStep.plain rfl rfl rfl ?_
                  intro tm ws hsame hS hg K hK
                  obtain ⟨v131, e131, rfl⟩ := hg 0 (by kernel_rfl) _ 131 rfl rfl
                  go_simp
                  exact hK _ _ (Below.refl _ _) hS rfl
                refine List.forall_mem_cons.2 ⟨?_, ?_⟩
                · refine SlotStep.guarded rfl rfl 1 rfl rfl (by kernel_rfl) (fun _ _ h => h) ?_
                  intro tm ws hsame hS hg K hK
                  have e17 : tm[17]? = some (.bool true) := hsame.2 17 rfl
                  go_simp
                  exact hK _ _ (Below.refl _ _) hS rfl
                refine List.forall_mem_cons.2 ⟨?_, ?_⟩
                · refine SlotStep.plain rfl rfl rfl ?_
                  intro tm ws hsame hS hg K hK
                  obtain ⟨v132, e132, rfl⟩ := hg 1 (by kernel_rfl) _ 132 rfl rfl
                  obtain ⟨v133, e133, rfl⟩ := hg 2 (by kernel_rfl) _ 133 rfl rfl
                  go_simp
                  exact hK _ _ (Below.refl _ _) hS rfl
                refine List.forall_mem_cons.2 ⟨?_, ?_⟩
                · refine SlotStep.plain rfl rfl rfl ?_
                  intro tm ws hsame hS hg K hK
                  obtain ⟨v134, e134, rfl⟩ := hg 3 (by kernel_rfl) _ 134 rfl rfl
                  go_simp
                  exact hK _ _ (Below.refl _ _) hS rfl
                refine List.forall_mem_cons.2 ⟨?_, ?_⟩
                · refine SlotStep.guarded rfl rfl 4 rfl rfl (by kernel_rfl) (fun _ _ h => h) ?_
                  intro tm ws hsame hS hg K hK
                  have e18 : tm[18]? = some (.pointer (some ⟨gr, 0, none⟩)) := hsame.2 18 rfl
                  obtain ⟨p, a, n, c, N, k0, k1, -, -, hN, hz⟩ := VarI.open (hS.2.1)
                  go_simp
                  exact hK _ _ (Below.refl _ _) hS ⟨p, a, n, c, N, rfl, hN, hz⟩
                refine List.forall_mem_cons.2 ⟨?_, ?_⟩
                · refine SlotStep.guarded rfl rfl 4 rfl rfl (by kernel_rfl) (fun _ _ h => h) ?_
                  intro tm ws hsame hS hg K hK
                  obtain ⟨v136, e136, ⟨p136, a136, n136, c136, N136, rfl, g136, z136⟩⟩ := hg 5 (by kernel_rfl) _ 136 rfl rfl
                  go_simp
                  refine (sign_num p136 (NewN.num g136) (by decide)).mono ?_
                  rw [← z136, HSR.out]
                  rintro e w2 ⟨rfl, hb⟩
                  exact hK _ _ hb (⟨hS.1.below (hb), hS.2.1.below (hb), hS.2.2.1.below (hb), hS.2.2.2.trans (Below.mono (hb) hS.2.2.2.size)⟩) rfl
                refine List.forall_mem_cons.2 ⟨?_, ?_⟩
                · refine SlotStep.guarded rfl rfl 4 rfl rfl (by kernel_rfl) (fun _ _ h => h) ?_
                  intro tm ws hsame hS hg K hK
                  have e8 : tm[8]? = some (.pointer (some ⟨gy, 0, none⟩)) := hsame.2 8 rfl
                  obtain ⟨p, a, n, c, N, k0, k1, -, -, hN, hz⟩ := VarI.open (hS.1)
                  go_simp
                  exact hK _ _ (Below.refl _ _) hS ⟨p, a, n, c, N, rfl, hN, hz⟩
                refine List.forall_mem_cons.2 ⟨?_, ?_⟩
                · refine SlotStep.guarded rfl rfl 4 rfl rfl (by kernel_rfl) (fun _ _ h => h) ?_
                  intro tm ws hsame hS hg K hK
                  obtain ⟨v138, e138, ⟨p138, a138, n138, c138, N138, rfl, g138, z138⟩⟩ := hg 7 (by kernel_rfl) _ 138 rfl rfl
                  go_simp
                  refine (sign_num p138 (NewN.num g138) (by decide)).mono ?_
                  rw [← z138, HSB.out]
                  rintro e w2 ⟨rfl, hb⟩
                  exact hK _ _ hb (⟨hS.1.below (hb), hS.2.1.below (hb), hS.2.2.1.below (hb), hS.2.2.2.trans (Below.mono (hb) hS.2.2.2.size)⟩) rfl
                refine List.forall_mem_cons.2 ⟨?_, ?_⟩
                · refine SlotStep.guarded rfl rfl 4 rfl rfl (by kernel_rfl) (fun _ _ h => h) ?_
                  intro tm ws hsame hS hg K hK
                  obtain ⟨v137, e137, rfl⟩ := hg 6 (by kernel_rfl) _ 137 rfl rfl
                  obtain ⟨v139, e139, rfl⟩ := hg 8 (by kernel_rfl) _ 139 rfl rfl
                  go_simp
                  rw [HWR.out]
                  exact hK _ _ (Below.refl _ _) hS rfl
                refine List.forall_mem_cons.2 ⟨?_, ?_⟩
                · refine SlotStep.guarded rfl rfl 4 rfl rfl (by kernel_rfl) (fun _ _ h => h) ?_
                  intro tm ws hsame hS hg K hK
                  obtain ⟨v140, e140, rfl⟩ := hg 9 (by kernel_rfl) _ 140 rfl rfl
                  go_simp
                  refine hK _ _ (Below.refl _ _) hS ?_
                  first
                    | rfl
                    | exact congrArg Value.bool HD1.out
                refine List.forall_mem_cons.2 ⟨?_, ?_⟩
                · refine SlotStep.plain rfl rfl rfl ?_
                  intro tm ws hsame hS hg K hK
                  obtain ⟨v135, e135, rfl⟩ := hg 4 (by kernel_rfl) _ 135 rfl rfl
                  obtain ⟨v141, e141, rfl⟩ := hg 10 (by kernel_rfl) _ 141 rfl rfl
                  go_simp
                  exact hK _ _ (Below.refl _ _) hS rfl
                refine List.forall_mem_cons.2 ⟨?_, ?_⟩
                · refine SlotStep.plain rfl rfl rfl ?_
                  intro tm ws hsame hS hg K hK
                  obtain ⟨v142, e142, rfl⟩ := hg 11 (by kernel_rfl) _ 142 rfl rfl
                  go_simp
                  exact hK _ _ (Below.refl _ _) hS rfl
                refine List.forall_mem_cons.2 ⟨?_, ?_⟩
                · refine SlotStep.guarded rfl rfl 12 rfl rfl (by kernel_rfl) (fun _ _ h => h) ?_
                  intro tm ws hsame hS hg K hK
                  have e18 : tm[18]? = some (.pointer (some ⟨gr, 0, none⟩)) := hsame.2 18 rfl
                  obtain ⟨p, a, n, c, N, k0, k1, -, -, hN, hz⟩ := VarI.open (hS.2.1)
                  go_simp
                  exact hK _ _ (Below.refl _ _) hS ⟨p, a, n, c, N, rfl, hN, hz⟩
                refine List.forall_mem_cons.2 ⟨?_, ?_⟩
                · refine SlotStep.guarded rfl rfl 12 rfl rfl (by kernel_rfl) (fun _ _ h => h) ?_
                  intro tm ws hsame hS hg K hK
                  have e18 : tm[18]? = some (.pointer (some ⟨gr, 0, none⟩)) := hsame.2 18 rfl
                  obtain ⟨p, a, n, c, N, k0, k1, -, -, hN, hz⟩ := VarI.open (hS.2.1)
                  go_simp
                  exact hK _ _ (Below.refl _ _) hS ⟨p, a, n, c, N, rfl, hN, hz⟩
                refine List.forall_mem_cons.2 ⟨?_, ?_⟩
                · refine SlotStep.guarded rfl rfl 12 rfl rfl (by kernel_rfl) (fun _ _ h => h) ?_
                  intro tm ws hsame hS hg K hK
                  obtain ⟨v145, e145, ⟨p145, a145, n145, c145, N145, rfl, g145, z145⟩⟩ := hg 14 (by kernel_rfl) _ 145 rfl rfl
                  go_simp
                  exact hK _ _ (below_alloc _ _) (⟨hS.1.below (below_alloc _ _), hS.2.1.below (below_alloc _ _), hS.2.2.1.below (below_alloc _ _), hS.2.2.2.trans (Below.mono (below_alloc _ _) hS.2.2.2.size)⟩) ⟨_, p145, a145, n145, c145, N145, rfl, new_cell.1, new_cell.2, NewN.below g145 (below_alloc _ _), z145⟩
                refine List.forall_mem_cons.2 ⟨?_, ?_⟩
                · refine SlotStep.guarded rfl rfl 12 rfl rfl (by kernel_rfl) (fun _ _ h => h) ?_
                  intro tm ws hsame hS hg K hK
                  obtain ⟨v144, e144, ⟨p144, a144, n144, c144, N144, rfl, g144, z144⟩⟩ := hg 13 (by kernel_rfl) _ 144 rfl rfl
                  obtain ⟨v146, e146, ⟨b146, p146, a146, n146, c146, N146, rfl, x146, y146, g146, z146⟩⟩ := hg 15 (by kernel_rfl) _ 146 rfl rfl
                  go_simp
                  refine (mulw1_in p144 p146 x146 y146 (NewN.num g144) (NewN.num g146) (by decide)).mono ?_
                  rintro e w2 ⟨pR, aR, nR, cR, NR, rfl, hR, hz, -, hb⟩
                  exact hK _ _ hb (⟨hS.1.below (hb), hS.2.1.below (hb), hS.2.2.1.below (hb), hS.2.2.2.trans (Below.mono (hb) hS.2.2.2.size)⟩) ⟨pR, aR, nR, cR, NR, rfl, TN.of (hR), by rw [← z144, ← z146] at hz; exact hz⟩
                refine List.forall_mem_cons.2 ⟨?_, ?_⟩
                · refine SlotStep.guarded rfl rfl 12 rfl rfl (by kernel_rfl) (fun _ _ h => h) ?_
                  intro tm ws hsame hS hg K hK
                  have e8 : tm[8]? = some (.pointer (some ⟨gy, 0, none⟩)) := hsame.2 8 rfl
                  obtain ⟨p, a, n, c, N, k0, k1, -, -, hN, hz⟩ := VarI.open (hS.1)
                  go_simp
                  exact hK _ _ (Below.refl _ _) hS ⟨p, a, n, c, N, rfl, hN, hz⟩
                refine List.forall_mem_cons.2 ⟨?_, ?_⟩
                · refine SlotStep.guarded rfl rfl 12 rfl rfl (by kernel_rfl) (fun _ _ h => h) ?_
                  intro tm ws hsame hS hg K hK
                  have e8 : tm[8]? = some (.pointer (some ⟨gy, 0, none⟩)) := hsame.2 8 rfl
                  obtain ⟨p, a, n, c, N, k0, k1, -, -, hN, hz⟩ := VarI.open (hS.1)
                  go_simp
                  exact hK _ _ (Below.refl _ _) hS ⟨p, a, n, c, N, rfl, hN, hz⟩
                refine List.forall_mem_cons.2 ⟨?_, ?_⟩
                · refine SlotStep.guarded rfl rfl 12 rfl rfl (by kernel_rfl) (fun _ _ h => h) ?_
                  intro tm ws hsame hS hg K hK
                  obtain ⟨v149, e149, ⟨p149, a149, n149, c149, N149, rfl, g149, z149⟩⟩ := hg 18 (by kernel_rfl) _ 149 rfl rfl
                  go_simp
                  exact hK _ _ (below_alloc _ _) (⟨hS.1.below (below_alloc _ _), hS.2.1.below (below_alloc _ _), hS.2.2.1.below (below_alloc _ _), hS.2.2.2.trans (Below.mono (below_alloc _ _) hS.2.2.2.size)⟩) ⟨_, p149, a149, n149, c149, N149, rfl, new_cell.1, new_cell.2, NewN.below g149 (below_alloc _ _), z149⟩
                refine List.forall_mem_cons.2 ⟨?_, ?_⟩
                · refine SlotStep.guarded rfl rfl 12 rfl rfl (by kernel_rfl) (fun _ _ h => h) ?_
                  intro tm ws hsame hS hg K hK
                  obtain ⟨v148, e148, ⟨p148, a148, n148, c148, N148, rfl, g148, z148⟩⟩ := hg 17 (by kernel_rfl) _ 148 rfl rfl
                  obtain ⟨v150, e150, ⟨b150, p150, a150, n150, c150, N150, rfl, x150, y150, g150, z150⟩⟩ := hg 19 (by kernel_rfl) _ 150 rfl rfl
                  go_simp
                  refine (mulw1_in p148 p150 x150 y150 (NewN.num g148) (NewN.num g150) (by decide)).mono ?_
                  rintro e w2 ⟨pR, aR, nR, cR, NR, rfl, hR, hz, -, hb⟩
                  exact hK _ _ hb (⟨hS.1.below (hb), hS.2.1.below (hb), hS.2.2.1.below (hb), hS.2.2.2.trans (Below.mono (hb) hS.2.2.2.size)⟩) ⟨pR, aR, nR, cR, NR, rfl, TN.of (hR), by rw [← z148, ← z150] at hz; exact hz⟩
                refine List.forall_mem_cons.2 ⟨?_, ?_⟩
                · refine SlotStep.guarded rfl rfl 12 rfl rfl (by kernel_rfl) (fun _ _ h => h) ?_
                  intro tm ws hsame hS hg K hK
                  obtain ⟨v147, e147, ⟨p147, a147, n147, c147, N147, rfl, g147, z147⟩⟩ := hg 16 (by kernel_rfl) _ 147 rfl rfl
                  obtain ⟨v151, e151, ⟨p151, a151, n151, c151, N151, rfl, g151, z151⟩⟩ := hg 20 (by kernel_rfl) _ 151 rfl rfl
                  go_simp
                  refine (cmpw_num p147 p151 (NewN.num g147) (NewN.num g151) (by decide) (by decide)).mono ?_
                  rw [← z147, ← z151, HLT.out]
                  rintro e w2 ⟨rfl, hb⟩
                  exact hK _ _ hb (⟨hS.1.below (hb), hS.2.1.below (hb), hS.2.2.1.below (hb), hS.2.2.2.trans (Below.mono (hb) hS.2.2.2.size)⟩) rfl
                refine List.forall_mem_cons.2 ⟨?_, ?_⟩
                · refine SlotStep.guarded rfl rfl 12 rfl rfl (by kernel_rfl) (fun _ _ h => h) ?_
                  intro tm ws hsame hS hg K hK
                  obtain ⟨v152, e152, rfl⟩ := hg 21 (by kernel_rfl) _ 152 rfl rfl
                  go_simp
                  exact hK _ _ (Below.refl _ _) hS rfl
                refine List.forall_mem_cons.2 ⟨?_, ?_⟩
                · refine SlotStep.plain rfl rfl rfl ?_
                  intro tm ws hsame hS hg K hK
                  obtain ⟨v143, e143, rfl⟩ := hg 12 (by kernel_rfl) _ 143 rfl rfl
                  obtain ⟨v153, e153, rfl⟩ := hg 22 (by kernel_rfl) _ 153 rfl rfl
                  go_simp
                  exact hK _ _ (Below.refl _ _) hS rfl
                refine List.forall_mem_cons.2 ⟨?_, ?_⟩
                · refine SlotStep.plain rfl rfl rfl ?_
                  intro tm ws hsame hS hg K hK
                  obtain ⟨v154, e154, rfl⟩ := hg 23 (by kernel_rfl) _ 154 rfl rfl
                  go_simp
                  exact hK _ _ (Below.refl _ _) hS rfl
                refine List.forall_mem_cons.2 ⟨?_, ?_⟩
                · refine SlotStep.guarded rfl rfl 24 rfl rfl (by kernel_rfl) (fun _ _ h => h) ?_
                  intro tm ws hsame hS hg K hK
                  have e18 : tm[18]? = some (.pointer (some ⟨gr, 0, none⟩)) := hsame.2 18 rfl
                  obtain ⟨p, a, n, c, N, k0, k1, -, -, hN, hz⟩ := VarI.open (hS.2.1)
                  go_simp
                  exact hK _ _ (Below.refl _ _) hS ⟨p, a, n, c, N, rfl, hN, hz⟩
                refine List.forall_mem_cons.2 ⟨?_, ?_⟩
                · refine SlotStep.guarded rfl rfl 24 rfl rfl (by kernel_rfl) (fun _ _ h => h) ?_
                  intro tm ws hsame hS hg K hK
                  obtain ⟨v156, e156, ⟨p156, a156, n156, c156, N156, rfl, g156, z156⟩⟩ := hg 25 (by kernel_rfl) _ 156 rfl rfl
                  go_simp
                  refine (sign_num p156 (NewN.num g156) (by decide)).mono ?_
                  rw [← z156, HSR.out]
                  rintro e w2 ⟨rfl, hb⟩
                  exact hK _ _ hb (⟨hS.1.below (hb), hS.2.1.below (hb), hS.2.2.1.below (hb), hS.2.2.2.trans (Below.mono (hb) hS.2.2.2.size)⟩) rfl
                refine List.forall_mem_cons.2 ⟨?_, ?_⟩
                · refine SlotStep.guarded rfl rfl 24 rfl rfl (by kernel_rfl) (fun _ _ h => h) ?_
                  intro tm ws hsame hS hg K hK
                  obtain ⟨v157, e157, rfl⟩ := hg 26 (by kernel_rfl) _ 157 rfl rfl
                  go_simp
                  refine hK _ _ (Below.refl _ _) hS ?_
                  exact congrArg Value.bool HZ1.out
                refine List.forall_mem_cons.2 ⟨?_, ?_⟩
                · refine SlotStep.guarded rfl rfl 24 rfl rfl (by kernel_rfl) (fun _ _ h => h) ?_
                  intro tm ws hsame hS hg K hK
                  have e19 : tm[19]? = some (.pointer (some ⟨gn, 0, none⟩)) := hsame.2 19 rfl
                  obtain ⟨p, a, n, c, N, k0, k1, -, -, hN, hz⟩ := VarI.open (hS.2.2.1)
                  go_simp
                  exact hK _ _ (Below.refl _ _) hS ⟨p, a, n, c, N, rfl, hN, hz⟩
                refine List.forall_mem_cons.2 ⟨?_, ?_⟩
                · refine SlotStep.guarded rfl rfl 24 rfl rfl (by kernel_rfl) (fun _ _ h => h) ?_
                  intro tm ws hsame hS hg K hK
                  obtain ⟨v159, e159, ⟨p159, a159, n159, c159, N159, rfl, g159, z159⟩⟩ := hg 28 (by kernel_rfl) _ 159 rfl rfl
                  go_simp
                  refine (sign_num p159 (NewN.num g159) (by decide)).mono ?_
                  rw [← z159, HSN.out]
                  rintro e w2 ⟨rfl, hb⟩
                  exact hK _ _ hb (⟨hS.1.below (hb), hS.2.1.below (hb), hS.2.2.1.below (hb), hS.2.2.2.trans (Below.mono (hb) hS.2.2.2.size)⟩) rfl
                refine List.forall_mem_cons.2 ⟨?_, ?_⟩
                · refine SlotStep.guarded rfl rfl 24 rfl rfl (by kernel_rfl) (fun _ _ h => h) ?_
                  intro tm ws hsame hS hg K hK
                  obtain ⟨v160, e160, rfl⟩ := hg 29 (by kernel_rfl) _ 160 rfl rfl
                  go_simp
                  refine hK _ _ (Below.refl _ _) hS ?_
                  exact congrArg Value.bool HZ2.out
                refine List.forall_mem_cons.2 ⟨?_, ?_⟩
                · refine SlotStep.guarded rfl rfl 24 rfl rfl (by kernel_rfl) (fun _ _ h => h) ?_
                  intro tm ws hsame hS hg K hK
                  obtain ⟨v158, e158, rfl⟩ := hg 27 (by kernel_rfl) _ 158 rfl rfl
                  obtain ⟨v161, e161, rfl⟩ := hg 30 (by kernel_rfl) _ 161 rfl rfl
                  go_simp
                  refine hK _ _ (Below.refl _ _) hS ?_
                  first
                    | rfl
                    | exact congrArg Value.bool (beq_self_eq_true tz)
                refine List.forall_mem_cons.2 ⟨?_, ?_⟩
                · refine SlotStep.plain rfl rfl rfl ?_
                  intro tm ws hsame hS hg K hK
                  obtain ⟨v155, e155, rfl⟩ := hg 24 (by kernel_rfl) _ 155 rfl rfl
                  obtain ⟨v162, e162, rfl⟩ := hg 31 (by kernel_rfl) _ 162 rfl rfl
                  go_simp
                  exact hK _ _ (Below.refl _ _) hS rfl
                refine List.forall_mem_cons.2 ⟨?_, ?_⟩
                · refine SlotStep.plain rfl rfl rfl ?_
                  intro tm ws hsame hS hg K hK
                  obtain ⟨v163, e163, rfl⟩ := hg 32 (by kernel_rfl) _ 163 rfl rfl
                  go_simp
                  exact hK _ _ (Below.refl _ _) hS rfl
                refine List.forall_mem_cons.2 ⟨?_, ?_⟩
                · refine SlotStep.guarded rfl rfl 33 rfl rfl (by kernel_rfl) (fun _ _ h => h) ?_
                  intro tm ws hsame hS hg K hK
                  have e19 : tm[19]? = some (.pointer (some ⟨gn, 0, none⟩)) := hsame.2 19 rfl
                  obtain ⟨p, a, n, c, N, k0, k1, -, -, hN, hz⟩ := VarI.open (hS.2.2.1)
                  go_simp
                  exact hK _ _ (Below.refl _ _) hS ⟨p, a, n, c, N, rfl, hN, hz⟩
                refine List.forall_mem_cons.2 ⟨?_, ?_⟩
                · refine SlotStep.guarded rfl rfl 33 rfl rfl (by kernel_rfl) (fun _ _ h => h) ?_
                  intro tm ws hsame hS hg K hK
                  go_simp
                  refine (wof_num 1 ws (by decide) (by decide)).mono ?_
                  rintro e w2 ⟨pR, aR, nR, cR, NR, rfl, hR, hz, -, hb⟩
                  exact hK _ _ hb (⟨hS.1.below (hb), hS.2.1.below (hb), hS.2.2.1.below (hb), hS.2.2.2.trans (Below.mono (hb) hS.2.2.2.size)⟩) ⟨pR, aR, nR, cR, NR, rfl, TN.of hR, hz⟩
                refine List.forall_mem_cons.2 ⟨?_, ?_⟩
                · refine SlotStep.guarded rfl rfl 33 rfl rfl (by kernel_rfl) (fun _ _ h => h) ?_
                  intro tm ws hsame hS hg K hK
                  obtain ⟨v165, e165, ⟨p165, a165, n165, c165, N165, rfl, g165, z165⟩⟩ := hg 34 (by kernel_rfl) _ 165 rfl rfl
                  obtain ⟨v166, e166, ⟨p166, a166, n166, c166, N166, rfl, g166, z166⟩⟩ := hg 35 (by kernel_rfl) _ 166 rfl rfl
                  go_simp
                  refine (cmpw_num p165 p166 (NewN.num g165) (NewN.num g166) (by decide) (by decide)).mono ?_
                  rw [← z165, ← z166, HC1.out]
                  rintro e w2 ⟨rfl, hb⟩
                  exact hK _ _ hb (⟨hS.1.below (hb), hS.2.1.below (hb), hS.2.2.1.below (hb), hS.2.2.2.trans (Below.mono (hb) hS.2.2.2.size)⟩) rfl
                refine List.forall_mem_cons.2 ⟨?_, ?_⟩
                · refine SlotStep.guarded rfl rfl 33 rfl rfl (by kernel_rfl) (fun _ _ h => h) ?_
                  intro tm ws hsame hS hg K hK
                  obtain ⟨v167, e167, rfl⟩ := hg 36 (by kernel_rfl) _ 167 rfl rfl
                  go_simp
                  refine hK _ _ (Below.refl _ _) hS ?_
                  first
                    | rfl
                    | exact congrArg Value.bool HD2.out
                refine List.forall_mem_cons.2 ⟨?_, ?_⟩
                · refine SlotStep.plain rfl rfl rfl ?_
                  intro tm ws hsame hS hg K hK
                  obtain ⟨v164, e164, rfl⟩ := hg 33 (by kernel_rfl) _ 164 rfl rfl
                  obtain ⟨v168, e168, rfl⟩ := hg 37 (by kernel_rfl) _ 168 rfl rfl
                  go_simp
                  exact hK _ _ (Below.refl _ _) hS rfl
                refine List.forall_mem_cons.2 ⟨?_, ?_⟩
                · refine SlotStep.plain rfl rfl rfl ?_
                  intro tm ws hsame hS hg K hK
                  obtain ⟨v169, e169, rfl⟩ := hg 38 (by kernel_rfl) _ 169 rfl rfl
                  go_simp
                  exact hK _ _ (Below.refl _ _) hS rfl
                refine List.forall_mem_cons.2 ⟨?_, ?_⟩
                · refine SlotStep.guarded rfl rfl 39 rfl rfl (by kernel_rfl) (fun _ _ h => h) ?_
                  intro tm ws hsame hS hg K hK
                  have e19 : tm[19]? = some (.pointer (some ⟨gn, 0, none⟩)) := hsame.2 19 rfl
                  obtain ⟨p, a, n, c, N, k0, k1, -, -, hN, hz⟩ := VarI.open (hS.2.2.1)
                  go_simp
                  exact hK _ _ (Below.refl _ _) hS ⟨p, a, n, c, N, rfl, hN, hz⟩
                refine List.forall_mem_cons.2 ⟨?_, ?_⟩
                · refine SlotStep.guarded rfl rfl 39 rfl rfl (by kernel_rfl) (fun _ _ h => h) ?_
                  intro tm ws hsame hS hg K hK
                  obtain ⟨v171, e171, ⟨p171, a171, n171, c171, N171, rfl, g171, z171⟩⟩ := hg 40 (by kernel_rfl) _ 171 rfl rfl
                  go_simp
                  refine (sign_num p171 (NewN.num g171) (by decide)).mono ?_
                  rw [← z171, HSN.out]
                  rintro e w2 ⟨rfl, hb⟩
                  exact hK _ _ hb (⟨hS.1.below (hb), hS.2.1.below (hb), hS.2.2.1.below (hb), hS.2.2.2.trans (Below.mono (hb) hS.2.2.2.size)⟩) rfl
                refine List.forall_mem_cons.2 ⟨?_, ?_⟩
                · refine SlotStep.guarded rfl rfl 39 rfl rfl (by kernel_rfl) (fun _ _ h => h) ?_
                  intro tm ws hsame hS hg K hK
                  obtain ⟨v172, e172, rfl⟩ := hg 41 (by kernel_rfl) _ 172 rfl rfl
                  go_simp
                  refine hK _ _ (Below.refl _ _) hS ?_
                  first
                    | rfl
                    | exact congrArg Value.bool HD3.out
                refine List.forall_mem_cons.2 ⟨?_, ?_⟩
                · refine SlotStep.plain rfl rfl rfl ?_
                  intro tm ws hsame hS hg K hK
                  obtain ⟨v170, e170, rfl⟩ := hg 39 (by kernel_rfl) _ 170 rfl rfl
                  obtain ⟨v173, e173, rfl⟩ := hg 42 (by kernel_rfl) _ 173 rfl rfl
                  go_simp
                  exact hK _ _ (Below.refl _ _) hS rfl
                refine List.forall_mem_cons.2 ⟨?_, ?_⟩
                · refine SlotStep.plain rfl rfl rfl ?_
                  intro tm ws hsame hS hg K hK
                  obtain ⟨v174, e174, rfl⟩ := hg 43 (by kernel_rfl) _ 174 rfl rfl
                  go_simp
                  exact hK _ _ (Below.refl _ _) hS rfl
                exact fun _ h => nomatch h
              case fin =>
                intro tm w9 hsame hS hgot
                obtain ⟨u, hu9, htm⟩ := hsame.form (by kernel_rfl)
                obtain ⟨v6', e6, rfl⟩ := hgot 44 _ 6 rfl rfl
                have h6 := hu9 _ _ e6
                have hbz := hS.2.2.2
                clear hgot hu9 hsame e6 hS
                rw [htm]
                clear htm tm
                simp only [List.foldl_cons, List.foldl_nil, List.setIfInBounds_toArray, List.set_cons_zero, List.set_cons_succ, h6]
                clear h6
                go_wp2_with fail
                go_ret
                exact ⟨rfl, hbz⟩
end Go.Proofs.YtbieldebkfkpkaaDoor
