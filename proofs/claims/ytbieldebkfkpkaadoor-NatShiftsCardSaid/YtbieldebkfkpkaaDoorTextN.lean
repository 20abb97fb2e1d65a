/-
  Contract of nat.Text for numbers of at most 150 words; decimal texts.
-/
import Derived.Test.YtbieldebkfkpkaaDoorWriteD
import Derived.Test.YtbieldebkfkpkaaDoorMath
namespace Go.Proofs.YtbieldebkfkpkaaDoor
open Go.RowKit

theorem dg_zero (k : Nat) : dg k 0 = List.replicate k 48 := by
  induction k with
  | zero => rfl
  | succ k ih =>
    rw [dg, show (0 : Int) / 10 = 0 by decide, ih, List.replicate_succ']
    rfl
theorem lead_rep (k : Nat) (l : List Int) : lead (List.replicate k 48 ++ l) = k + lead l := by
  induction k with
  | zero => simp
  | succ k ih =>
    rw [List.replicate_succ, List.cons_append]
    simp only [lead, if_true, ih]
    omega
theorem dg_more (k n : Nat) {N : Int} (h0 : 0 ≤ N) (hN : N < 10 ^ n) : dg (k + n) N = List.replicate k 48 ++ dg n N := by
  rw [dg_add, Int.ediv_eq_zero_of_lt h0 hN, dg_zero]
theorem txt_more (k n : Nat) {N : Int} (h0 : 0 ≤ N) (hN : N < 10 ^ n) : txt (k + n) N = txt n N := by
  unfold txt
  rw [dg_more k n h0 hN, lead_rep]
  by_cases h : lead (dg n N) = n
  · rw [if_pos (by omega), if_pos h]
  · rw [if_neg (by omega), if_neg h, List.drop_append]
    simp
/-- The decimal digits of a number. -/
def dec (N : Int) : List Int := txt (N.toNat + 1) N
theorem lt_ten (N : Int) : N < 10 ^ (N.toNat + 1) := by
  have h1 : N.toNat + 1 < 10 ^ (N.toNat + 1) := Nat.lt_pow_self (by decide)
  have h2 : ((N.toNat + 1 : Nat) : Int) < ((10 ^ (N.toNat + 1) : Nat) : Int) := by exact_mod_cast h1
  rw [Int.natCast_pow] at h2
  have h3 : ((10 : Nat) : Int) ^ (N.toNat + 1) = (10 : Int) ^ (N.toNat + 1) := rfl
  omega
theorem txt_dec {n : Nat} {N : Int} (h0 : 0 ≤ N) (hN : N < 10 ^ n) : txt n N = dec N := by
  have h := lt_ten N
  unfold dec
  rcases Nat.le_total n (N.toNat + 1) with a | a
  · obtain ⟨k, hk⟩ := Nat.le.dest a
    rw [← hk, Nat.add_comm n k, txt_more k n h0 hN]
  · obtain ⟨k, hk⟩ := Nat.le.dest a
    rw [← hk, Nat.add_comm (N.toNat + 1) k, txt_more k _ h0 h]

theorem numg_fresh {w : World} {g : Nat} {v : Value} {N : Int} {m : Nat} (h : Num w v N m) (hg : w.heap.size ≤ g) : NumG w g v N m := by
  refine ⟨h, fun b o n c e hn => ?_⟩
  obtain ⟨l, ⟨a, c', he, h1, h2, h3, h4⟩, h5, h6⟩ := h
  rw [e] at he
  simp only [Value.slice.injEq] at he
  obtain ⟨rfl, rfl, rfl⟩ := he
  rcases h3 with rfl | ⟨b', o', e', hat⟩
  · simp at hn
  · cases e'
    have := hat.lt (by intro e; subst e; simp at hn)
    omega

theorem pw_mono {i j : Nat} (h : i ≤ j) : pw i ≤ pw j := by
  unfold pw
  refine pow_le_pow (by decide) ?_
  exact Nat.mul_le_mul_left _ (Nat.pow_le_pow_right (by decide) h)
theorem pw_small {i : Nat} {N : Int} {m : Nat} (h : pw i ≤ N) (hN : N < B64 ^ m) (hm : m ≤ 150) : i ≤ 8 := by
  rcases Nat.lt_or_ge i 9 with a | a
  · omega
  · have h1 := pw_mono a
    have h2 := pow_le_pow B64_pos hm
    have h3 : B64 ^ 150 ≤ pw 9 := by decide +kernel
    omega

set_option maxRecDepth 100000 in
set_option maxHeartbeats 2000000 in
theorem text_any {w : World} {u : Value} {N : Int} {m : Nat} (hu : Num w u N m) (hm : m ≤ 150) (hm1 : 1 ≤ m) :
    Calls Tryd.prog 20 #[u] w fun e w' => RetV w (.string (strOfNums (dec N))) e w' := by
  obtain ⟨au, nu, cu, lu, rfl, -⟩ := hu.open
  have hN0 := hu.nonneg
  have hNlt := hu.lt
  have HPW := Lib.hid (powers_num hu (by omega) hm1)
  have HLT := Lib.hid hNlt
  go_enter Tryd.func20, Tryd.ntmps20
  go_wp2_with fail
  refine HPW.out.mono ?_
  rintro e w1 ⟨v, vs, rfl, hO, hels, hNp, hle, hb1⟩
  obtain ⟨ap, cp, rfl, hp1, hp2, hrow⟩ := hO.form
  have hp9 : vs.length ≤ 9 := by
    rcases Nat.eq_zero_or_pos vs.length with h | h
    · omega
    · have := pw_small (hle (vs.length - 1) (by omega)) HLT.out hm
      omega
  have hap : ∀ b o, ap = some ⟨b, o, none⟩ → b ≠ w1.heap.size := by
    intro b o e
    have := hO.lt b (by rw [e]; rfl)
    omega
  obtain ⟨p, hp⟩ : ∃ p, p = vs.length := ⟨_, rfl⟩
  rw [← hp] at hp1 hp9 hNp ⊢
  obtain ⟨n, hn⟩ : ∃ n, n = 19 * 2 ^ p := ⟨_, rfl⟩
  have hn2 : n ≤ 19 * 2 ^ 9 := by rw [hn]; exact Nat.mul_le_mul_left _ (Nat.pow_le_pow_right (by decide) hp9)
  have hn0 : 0 < n := by rw [hn]; have := Nat.two_pow_pos p; omega
  have hnI : (19 : Int) * 2 ^ p = (n : Int) := by rw [hn]; push_cast; rfl
  have hwr : IntKind.i64.wrap (n : Int) = (n : Int) := by rw [IntKind.wrap_i64]; omega
  have hpI : (p : Int) ≤ 9 := by omega
  have hnb : n ≤ 9728 := by omega
  have hpw : pw p = 10 ^ n := by rw [hn]; rfl
  rw [hpw] at hNp
  have HN := Lib.hid hn
  have HP := Lib.hid hp
  have htx := txt_dec hN0 hNp
  have HTX := Lib.hid htx
  clear hn hp hn2 hNp hpw hle htx
  have HWD := fun w2 (hb2 : Below w1.heap.size w1 w2) (hA2 : ArrB w2 w1.heap.size 0 (List.replicate n 0)) => writeDigits_num p w1.heap.size 0 n n (List.replicate n 0) au nu cu N m ap cp vs (2 * m + 1) w2 HN.out (by simp) (Nat.le_refl _) (by omega) hA2 ((hu.below hb1).below hb2) hm HP.out.symm (by omega) hp1 hp2 (hrow.below hb2) hap (fun j hj => (numg_fresh (hels j (by rw [← HP.out]; exact hj)) (Nat.le_refl _)).below hb2) (by omega)
  go_wp2_with (at_make; refine wpList_make_bytes _ rfl (.tmp 9) (.tmp 9) 91 rfl Tryd.underlying91 info_u8 _ _ n rfl rfl (by rfl) (by rfl) (by unfold MaxW; omega) ?_; intro w2 hA2 hb2 hs2)
  refine (HWD _ (by assumption) (by assumption)).mono ?_
  rintro e w3 ⟨rfl, harr, honly⟩
  have hbB := hb1.trans ((by assumption : Below w1.heap.size w1 w2).mono hb1.size)
  have hbC : Below w.heap.size w w3 := hbB.trans (honly.below hb1.size hbB.size)
  go_wp2_with fail
  refine (trimLeft_any w1.heap.size 0 n n (dg n N) w3 (dg_length _ _).symm (Nat.le_refl _) (by omega) harr.at' hn0).mono ?_
  rintro e w' ⟨rfl, h | h⟩
  · obtain ⟨hld, rfl⟩ := h
    have htx : strOfNums (txt n N) = ⟨#[48]⟩ := by rw [txt, if_pos hld]; rfl
    have HTX2 := Lib.hid htx
    clear htx hld
    go_wp2_with fail
    go_ret
    exact ⟨by rw [← HTX.out, HTX2.out]; rfl, hbC⟩
  · obtain ⟨hld, rfl⟩ := h
    obtain ⟨k, hk⟩ : ∃ k, k = lead (dg n N) := ⟨_, rfl⟩
    obtain ⟨bs, hbs⟩ : ∃ bs, bs = txt n N := ⟨_, rfl⟩
    have htx : bs = (dg n N).drop k := by rw [hbs, txt, if_neg (by omega), hk]
    rw [← hk] at hld ⊢
    have HBS := Lib.hid hbs
    have hlen : bs.length = n - k := by rw [htx, List.length_drop, dg_length]
    have hcells := (harr.drop k).at'
    rw [← htx] at hcells
    have hconv := fun dst hd => run_convert_bytes_arg (P := Tryd.prog) w3 91 5 Tryd.underlying91 Tryd.underlying5 w1.heap.size (0 + k) (n - k) (n - k) bs hlen (fun i hi => hcells i (by rw [hlen]; exact hi)) dst hd
    have hc9 := hconv 9 Tryd.underlying9
    have hne : (((n - k : Nat) : Int) == 0) = false := by simp; omega
    rw [Nat.zero_add] at hc9 ⊢
    clear htx hbs hk hlen hcells hconv harr
    go_wp2_with fail
    go_ret
    exact ⟨by rw [← HTX.out, ← HBS.out]; rfl, hbC⟩

/-! ### The number of a decimal text -/

theorem byte_num {d : Int} (h : 48 ≤ d ∧ d ≤ 57) : (((UInt8.ofNat d.toNat).toNat : Nat) : Int) = d := by
  have h1 : d.toNat < 256 := by omega
  have h2 : (UInt8.ofNat d.toNat).toNat = d.toNat := by simp [Nat.mod_eq_of_lt h1]
  omega
def bytesOf (l : List Int) : List UInt8 := l.map fun n => UInt8.ofNat n.toNat
theorem dval_dg (n : Nat) {N : Int} (h0 : 0 ≤ N) (hN : N < 10 ^ n) : dval (bytesOf (dg n N)) = N := by
  induction n generalizing N with
  | zero => simp [dg, bytesOf, dval]; rw [Int.pow_zero] at hN; omega
  | succ n ih =>
    have h1 : dval (bytesOf (dg n (N / 10))) = N / 10 := ih (Int.ediv_nonneg h0 (by decide)) (by
      refine Int.ediv_lt_of_lt_mul (by decide) ?_
      rw [Int.pow_succ] at hN; exact hN)
    have h2 := byte_num (d := 48 + N % 10) (by omega)
    rw [dg, bytesOf, List.map_append, List.map_cons, List.map_nil, dval_snoc]
    rw [bytesOf] at h1
    rw [h1, h2]
    omega
theorem allD_dg (n : Nat) (N : Int) : allD (bytesOf (dg n N)) = true := by
  unfold allD bytesOf
  rw [List.all_eq_true]
  intro c hc
  obtain ⟨d, hd, rfl⟩ := List.mem_map.1 hc
  have h1 := dg_lim n N d hd
  have h2 := byte_num h1
  exact dokB_yes _ (by omega) (by omega)
theorem dval_zeros (k : Nat) (l : List UInt8) : dval (List.replicate k 48 ++ l) = dval l := by
  rw [dval_app]
  have e : dval (List.replicate k 48) = 0 := by
    induction k with
    | zero => rfl
    | succ k ih => rw [List.replicate_succ', dval_snoc, ih]; decide
  rw [e]; simp
theorem lead_split (l : List Int) : l = List.replicate (lead l) 48 ++ l.drop (lead l) := by
  induction l with
  | nil => rfl
  | cons x l ih =>
    by_cases h : x = 48
    · subst h
      simp only [lead, if_true, List.replicate_succ, List.drop_succ_cons, List.cons_append]
      rw [← ih]
    · simp [lead, h]
theorem txt_spec (n : Nat) {N : Int} (h0 : 0 ≤ N) (hN : N < 10 ^ n) : dval (bytesOf (txt n N)) = N ∧ allD (bytesOf (txt n N)) = true ∧ 0 < (txt n N).length ∧ (txt n N).length ≤ n + 1 := by
  have h1 := dval_dg n h0 hN
  have h2 := allD_dg n N
  have h3 := lead_le (dg n N)
  rw [dg_length] at h3
  rw [lead_split (dg n N)] at h1 h2
  have e : bytesOf (List.replicate (lead (dg n N)) 48 ++ (dg n N).drop (lead (dg n N))) = List.replicate (lead (dg n N)) 48 ++ bytesOf ((dg n N).drop (lead (dg n N))) := by
    unfold bytesOf
    rw [List.map_append, List.map_replicate]
    rfl
  rw [e, dval_zeros] at h1
  rw [e, allD_app, Bool.and_eq_true] at h2
  unfold txt
  by_cases hl : lead (dg n N) = n
  · rw [if_pos hl]
    rw [hl, List.drop_of_length_le (by rw [dg_length]; exact Nat.le_refl _)] at h1
    have : N = 0 := by rw [← h1]; rfl
    subst this
    exact ⟨by decide, by decide, by decide, by simp⟩
  · rw [if_neg hl]
    refine ⟨h1, h2.2, ?_, ?_⟩ <;> rw [List.length_drop, dg_length] <;> omega
theorem dec_bytes (N : Int) : (strOfNums (dec N)).data.toList = bytesOf (dec N) := rfl
theorem dec_size (N : Int) : (strOfNums (dec N)).size = (dec N).length := by
  show ((dec N).map fun n => UInt8.ofNat n.toNat).toArray.size = _
  rw [List.size_toArray, List.length_map]
theorem dec_spec {N : Int} (h0 : 0 ≤ N) : dval (bytesOf (dec N)) = N ∧ allD (bytesOf (dec N)) = true ∧ 0 < (dec N).length := by
  have := txt_spec (N.toNat + 1) h0 (lt_ten N)
  exact ⟨this.1, this.2.1, this.2.2.1⟩
theorem dec_len {N : Int} {n : Nat} (h0 : 0 ≤ N) (hN : N < 10 ^ n) : (dec N).length ≤ n + 1 := by
  rw [← txt_dec h0 hN]
  exact (txt_spec n h0 hN).2.2.2
end Go.Proofs.YtbieldebkfkpkaaDoor
