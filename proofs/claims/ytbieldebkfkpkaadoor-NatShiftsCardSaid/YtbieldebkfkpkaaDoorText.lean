/-
  Contracts of bytes.TrimLeft at the cutset 0, and of nat.Text for numbers below 10^19.
-/
import Derived.Test.YtbieldebkfkpkaaDoorChunks
import Derived.Test.YtbieldebkfkpkaaDoorSqrtLimb
import Derived.Laws.BytesArg
namespace Go.Proofs.YtbieldebkfkpkaaDoor
open Go.RowKit

theorem info_u8 : (Tryd.prog.info? 5).map (fun i => (i.zero, i.size, i.bytes)) = some (some (.int .u8 0), 1, 1) := by kernel_rfl

/-- make([]byte, n), n a number. -/
theorem wpList_make_bytes {P : Program} (w : World) {ops : Array Oper} {rest : List Oper} {o : Oper} {a : Act} {Q : Exit → Act → World → Prop}
    (hg : o.guard = none) (l c : Operand) (t : TypeId) (hop : o.op = Op.makeSlice t l c)
    (h1 : P.underlying t = some (.slice 5)) (hi : (P.info? 5).map (fun i => (i.zero, i.size, i.bytes)) = some (some (.int .u8 0), 1, 1))
    (L C : Int) (n : Nat) (hl : a.eval l = .int .i64 L) (hc : a.eval c = .int .i64 C) (hL : L = (n : Int)) (hC : C = (n : Int)) (b : n ≤ MaxW)
    (hK : ∀ w', ArrB w' w.heap.size 0 (List.replicate n 0) → Below w.heap.size w w' → w.heap.size < w'.heap.size → wpList P ops Q rest (a.put o.dst (.slice (some ⟨w.heap.size, 0, none⟩) n n)) w') :
    wpList P ops Q (o :: rest) a w := by
  obtain ⟨i, h2, h3, h4, h5⟩ := info_parts hi
  unfold MaxW at b
  refine wpList_make_full w hg l c t hop w.heap.size 5 i (.int .u8 0) 1 h1 h2 h3 h4 .i64 .i64 L C n hl hc hL hC (by rw [h5]; omega) (by unfold maxLen; omega) (Nat.le_refl _) fun w' hown hgr => ?_
  have e : (madeCells (Value.int .u8 0).cells (n * 1)).toList = List.replicate n (.int .u8 0) := by
    rw [Nat.mul_one, show (Value.int .u8 0).cells = #[.int .u8 0] from rfl, toList_madeCells_one]
  rw [e] at hown
  rcases hown.2 with ⟨h, _⟩ | ⟨g, cap, cur, hv, hb, hh, hn, hm, hcs, htk⟩
  · simp at h
  · simp only [Value.slice.injEq, Option.some.injEq, Addr.mk.injEq, and_true] at hv
    obtain ⟨rfl, _⟩ := hv
    refine hK w' ⟨cur, _, hh, fun j hj => ?_⟩ ((Below.refl _ _).grown hgr (Nat.le_refl _) (fun k h => by cases h)) (Array.getElem?_eq_some_iff.1 hh).1
    rw [List.length_replicate] at hj
    have : (cur.toList.take (n * 1))[j]? = (List.replicate n (Value.int .u8 0))[j]? := by rw [htk]
    rw [List.getElem?_take, if_pos (by omega), List.getElem?_replicate, if_pos hj] at this
    rw [Nat.zero_add]
    simpa [List.getD_eq_getElem?_getD, hj] using this

/-- How many zeros (as bytes) a list opens with. -/
def lead : List Int → Nat
  | [] => 0
  | x :: l => if x = 48 then lead l + 1 else 0
theorem lead_le (l : List Int) : lead l ≤ l.length := by
  induction l with
  | nil => exact Nat.le_refl _
  | cons x l ih => simp only [lead, List.length_cons]; split <;> omega
theorem lead_eq {l : List Int} {k : Nat} (hk : k ≤ l.length) (h0 : ∀ j, j < k → l.getD j 0 = 48) (h1 : k = l.length ∨ l.getD k 0 ≠ 48) : lead l = k := by
  induction l generalizing k with
  | nil => simp at hk; simp [lead, hk]
  | cons x l ih =>
    cases k with
    | zero =>
      rcases h1 with h1 | h1
      · simp at h1
      · simp at h1; simp [lead, h1]
    | succ k =>
      have hx : x = 48 := by have := h0 0 (by omega); simpa using this
      have := ih (k := k) (by simpa using hk) (fun j hj => by have := h0 (j + 1) (by omega); rwa [List.getD_cons_succ] at this) (by
        rcases h1 with h1 | h1
        · left; simpa using h1
        · right; rwa [List.getD_cons_succ] at h1)
      simp [lead, hx, this]

/-- What is left of a row of bytes when the zeros at its head are cut off: none, or a slice further on in the row. -/
def RetTL (g off n cap : Nat) (l : List Int) (w : World) (e : Ending) (w' : World) : Prop :=
  w = w' ∧ ((lead l = n ∧ e = .returned (.slice none 0 0)) ∨ (lead l < n ∧ e = .returned (.slice (some ⟨g, off + lead l, none⟩) (n - lead l) (cap - lead l))))

set_option maxRecDepth 100000 in
set_option maxHeartbeats 2000000 in
theorem trimByte_any (g off n cap : Nat) (l : List Int) (w : World) (hn : n = l.length) (h1 : n ≤ cap) (_h2 : cap ≤ 9223372036854775807) (h : AtB w g off l) :
    Calls Tryd.prog 93 #[.slice (some ⟨g, off, none⟩) n cap, .int .u8 48] w fun e w' => RetTL g off n cap l w e w' := by
  have HN := Lib.hid hn
  clear hn
  go_enter Tryd.func93, Tryd.ntmps93
  go_wp2
  go_loop [0] (fun v => ∃ (k : Nat) (a : Addr), k ≤ n ∧ v = .slice (some a) (n - k) (cap - k) ∧ (k < n → a = ⟨g, off + k, none⟩) ∧ Hid (∀ j, j < k → l.getD j 0 = 48)) (fun v => match v with | .slice _ m _ => m | _ => 0)
  case atStart => exact ⟨0, _, Nat.zero_le _, rfl, fun _ => rfl, fun j h => by omega⟩
  case round =>
    obtain ⟨k, a, hk, rfl, ha, HZ⟩ := hrel
    by_cases hlt : k < n
    · obtain rfl := ha hlt
      obtain ⟨x, hx⟩ : ∃ x, x = l.getD k 0 := ⟨_, rfl⟩
      have hc : w.cell? ⟨g, off + k, none⟩ = some (.int .u8 x) := by rw [hx]; exact h k (by rw [← HN.out]; exact hlt)
      have hpos : 0 < n - k := by omega
      have HX := Lib.hid hx
      clear hx ha
      by_cases h48 : x = 48
      · have hb : (x == 48) = true := by simp [h48]
        have HX48 := Lib.hid h48
        clear h48
        by_cases hone : cap - k = 1
        · go_wp2
          go_round
          case rel =>
            refine ⟨k + 1, ⟨g, off + k, none⟩, by omega, ?_, fun h => by omega, ?_⟩
            · rw [show n - (k + 1) = n - k - 1 by omega, show cap - (k + 1) = 0 by omega]
            · intro j hj
              by_cases hjk : j = k
              · subst hjk; rw [← HX.out, HX48.out]
              · exact HZ.out j (by omega)
          case measure => show n - k - 1 < n - k; omega
        · go_wp2
          go_round
          case rel =>
            refine ⟨k + 1, ⟨g, off + k + 1, none⟩, by omega, ?_, fun h => rfl, ?_⟩
            · rw [show n - (k + 1) = n - k - 1 by omega, show cap - (k + 1) = cap - k - 1 by omega]
            · intro j hj
              by_cases hjk : j = k
              · subst hjk; rw [← HX.out, HX48.out]
              · exact HZ.out j (by omega)
          case measure => show n - k - 1 < n - k; omega
      · have hb : (x == 48) = false := by simp [h48]
        have hl : lead l = k := lead_eq (by rw [← HN.out]; omega) HZ.out (Or.inr (by rw [← HX.out]; exact h48))
        have HL := Lib.hid hl
        clear hl
        go_wp2
        go_ret
        refine ⟨rfl, Or.inr ⟨by rw [HL.out]; exact hlt, ?_⟩⟩
        rw [HL.out]
        rfl
    · have hkn : k = n := by omega
      subst hkn
      have hl : lead l = k := lead_eq (by rw [← HN.out]; omega) HZ.out (Or.inl HN.out)
      have HL := Lib.hid hl
      clear hl
      go_wp2
      go_ret
      exact ⟨rfl, Or.inl ⟨HL.out, rfl⟩⟩
set_option maxRecDepth 100000 in
set_option maxHeartbeats 2000000 in
/-- bytes.TrimLeft(s, "0"). -/
theorem trimLeft_any (g off n cap : Nat) (l : List Int) (w : World) (hn : n = l.length) (h1 : n ≤ cap) (h2 : cap ≤ 9223372036854775807) (h : AtB w g off l) (hp : 0 < n) :
    Calls Tryd.prog 74 #[.slice (some ⟨g, off, none⟩) n cap, .string ⟨#[48]⟩] w fun e w' => RetTL g off n cap l w e w' := by
  have hn0 : ((n : Int) == 0) = false := by simp; omega
  have HT := Lib.hid (trimByte_any g off n cap l w hn h1 h2 h)
  clear hn
  go_enter Tryd.func74, Tryd.ntmps74
  go_wp2_with fail
  refine HT.out.mono ?_
  rintro e w' ⟨rfl, h | h⟩
  · obtain ⟨hl, rfl⟩ := h
    have HL := Lib.hid hl
    clear hl
    go_wp2_with fail
    go_ret
    exact ⟨rfl, Or.inl ⟨HL.out, rfl⟩⟩
  · obtain ⟨hl, rfl⟩ := h
    go_wp2_with fail
    go_ret
    exact ⟨rfl, Or.inr ⟨hl, rfl⟩⟩

set_option maxRecDepth 100000 in
set_option maxHeartbeats 2000000 in
/-- nat.chunkPowers of a number below 10^19: there are none. -/
theorem powers_small (ao : Option Addr) (n cap : Nat) (l : List Int) (w : World) (hn : n = l.length) (h1 : n ≤ cap) (h2 : cap ≤ 9223372036854775807) (h : Rd w ao l) (hl : Lim B64 l) (hM : n ≤ MaxW) (hN : vb B64 l < 10000000000000000000) :
    Calls Tryd.prog 72 #[.slice ao n cap] w fun e w' => RetV w (.slice none 0 0) e w' := by
  have hbits := Lib.hid (bits_any ao n cap l w hn h1 h2 h hl hM)
  have HN := Lib.hid hn
  have limc : Lim B64 [10000000000000000000] := Lim.cons (by decide) (by decide) (Lim.nil _)
  obtain ⟨t, ht⟩ : ∃ t, t = nb (vb B64 l) := ⟨_, rfl⟩
  rw [← ht] at hbits
  have HNN := Lib.hid hN
  clear hn ht hN
  go_enter Tryd.func72, Tryd.ntmps72
  go_wp2_with fail
  refine hbits.out.mono ?_
  rintro e w' ⟨rfl, rfl⟩
  go_wp2_with fail
  refine (of_any _ 1 1 [10000000000000000000] _ rfl (Nat.le_refl _) (by decide) (at_new _ _ _) (by decide)).mono ?_
  rintro e w1 ⟨v1, rfl, hO1, hb1⟩
  have hbA : Below w.heap.size w w1 := ((Below.refl _ _).alloc (Nat.le_refl _) _).trans (hb1.mono (by simp))
  obtain ⟨a1, c1, rfl, hc1, hc2, hr1⟩ := hO1.form
  obtain ⟨m, hm⟩ : ∃ m, m = (tr [10000000000000000000]).length := ⟨_, rfl⟩
  rw [← hm] at hc1
  rw [← hm]
  have hcmp := cmp_any a1 m c1 (tr [10000000000000000000]) ao n cap l w1 hm HN.out hc1 hc2 h1 h2 hr1 (h.below hbA) (limc.take _) hl
  rw [vb_tr, vb_one, cmpI_gt HNN.out] at hcmp
  have HCMP := Lib.hid hcmp
  clear hcmp hm
  go_wp2_with fail
  refine wp_loop_rounds 1 ?_
  rw [rounds_succ]
  go_wp2_with fail
  refine HCMP.out.mono ?_
  rintro e w2 ⟨rfl, hb2⟩
  go_wp2_with fail
  go_ret
  exact ⟨rfl, hbA.trans (hb2.mono hbA.size)⟩

def RetWD (g off n : Nat) (N : Int) (w : World) (e : Ending) (w' : World) : Prop := e = .returned (.tuple #[]) ∧ ArrB w' g off (dg n N) ∧ Only g off (off + n) w w'

set_option maxRecDepth 100000 in
set_option maxHeartbeats 2000000 in
/-- nat.writeDigits without powers: chunk by chunk. -/
theorem writeDigits_none (g off n cap M : Nat) (D : List Int) (ao : Option Addr) (m ca : Nat) (l : List Int) (ap : Option Addr) (cp : Nat) (w : World) (hn : n = 19 * M) (hD : D.length = n) (h1 : n ≤ cap) (h2 : cap ≤ 9223372036854775807)
    (hd : ArrB w g off D) (hm : m = l.length) (h3 : m ≤ ca) (h4 : ca ≤ 9223372036854775807) (h : Rd w ao l) (hl : Lim B64 l) (hM : m ≤ MaxW) :
    Calls Tryd.prog 73 #[.slice (some ⟨g, off, none⟩) n cap, .slice ao m ca, .slice ap 0 cp] w fun e w' => RetWD g off n (vb B64 l) w e w' := by
  have HM := Lib.hid hm
  have HNN := Lib.hid hn
  have HD := Lib.hid hD
  have hglt := hd.lt
  clear hm hn hD
  go_enter Tryd.func73, Tryd.ntmps73
  go_wp2_with fail
  refine (of_any ao m ca l w HM.out h3 h4 h hM).mono ?_
  rintro e w1 ⟨v1, rfl, hO1, hb1⟩
  go_wp2_with fail
  refine (writeChunks_any g off n cap M D v1 (tr l) w.heap.size w1 HNN.out HD.out h1 h2 (hd.below hb1 hglt) hO1 (hl.take _) hglt hb1.size).mono ?_
  rintro e w2 ⟨rfl, harr, honly⟩
  go_wp2_with fail
  go_end0
  rw [vb_tr] at harr
  exact ⟨rfl, harr, ((OnlyB.of_below hb1 hglt).trans honly).only⟩

/-- The digits of a number of at most n of them, without zeros ahead; one zero for 0. -/
def txt (n : Nat) (N : Int) : List Int := if lead (dg n N) = n then [48] else (dg n N).drop (lead (dg n N))

set_option maxRecDepth 100000 in
set_option maxHeartbeats 2000000 in
theorem text_small (ao : Option Addr) (n cap : Nat) (l : List Int) (w : World) (hn : n = l.length) (h1 : n ≤ cap) (h2 : cap ≤ 9223372036854775807) (h : Rd w ao l) (hl : Lim B64 l) (hM : n ≤ MaxW) (hN : vb B64 l < 10000000000000000000) :
    Calls Tryd.prog 20 #[.slice ao n cap] w fun e w' => RetV w (.string (strOfNums (txt 19 (vb B64 l)))) e w' := by
  have hpw := Lib.hid (powers_small ao n cap l w hn h1 h2 h hl hM hN)
  have HN := Lib.hid hn
  clear hn hN
  go_enter Tryd.func20, Tryd.ntmps20
  go_wp2_with fail
  refine hpw.out.mono ?_
  rintro e w1 ⟨rfl, hb1⟩
  go_wp2_with (at_make; refine wpList_make_bytes _ rfl (.tmp 9) (.tmp 9) 91 rfl Tryd.underlying91 info_u8 _ _ 19 rfl rfl rfl rfl (by decide) ?_; intro w2 hA2 hb2 hs2)
  have hbA : Below w1.heap.size w1 w2 := by assumption
  have hA : ArrB w2 w1.heap.size 0 (List.replicate 19 0) := by assumption
  have hbB : Below w.heap.size w w2 := hb1.trans (hbA.mono hb1.size)
  refine (writeDigits_none w1.heap.size 0 19 19 1 _ ao n cap l none 0 w2 rfl (by simp) (by decide) (by decide) hA HN.out h1 h2 (h.below hbB) hl hM).mono ?_
  rintro e w3 ⟨rfl, harr, honly⟩
  have hbC : Below w.heap.size w w3 := hbB.trans (honly.below hb1.size hbB.size)
  go_wp2_with fail
  refine (trimLeft_any w1.heap.size 0 19 19 (dg 19 (vb B64 l)) w3 (dg_length _ _).symm (by decide) (by decide) harr.at' (by decide)).mono ?_
  rintro e w' ⟨rfl, h | h⟩
  · obtain ⟨hld, rfl⟩ := h
    have htx : strOfNums (txt 19 (vb B64 l)) = ⟨#[48]⟩ := by rw [txt, if_pos hld]; rfl
    have HTX := Lib.hid htx
    clear htx hld
    go_wp2_with fail
    go_ret
    exact ⟨by rw [HTX.out]; rfl, hbC⟩
  · obtain ⟨hld, rfl⟩ := h
    obtain ⟨k, hk⟩ : ∃ k, k = lead (dg 19 (vb B64 l)) := ⟨_, rfl⟩
    obtain ⟨bs, hbs⟩ : ∃ bs, bs = txt 19 (vb B64 l) := ⟨_, rfl⟩
    have htx : bs = (dg 19 (vb B64 l)).drop k := by rw [hbs, txt, if_neg (by omega), hk]
    rw [← hk] at hld ⊢
    have HBS := Lib.hid hbs
    have hlen : bs.length = 19 - k := by rw [htx, List.length_drop, dg_length]
    have hcells := (harr.drop k).at'
    rw [← htx] at hcells
    have hconv := fun dst hd => run_convert_bytes_arg (P := Tryd.prog) w3 91 5 Tryd.underlying91 Tryd.underlying5 w1.heap.size (0 + k) (19 - k) (19 - k) bs hlen (fun i hi => hcells i (by rw [hlen]; exact hi)) dst hd
    have hc9 := hconv 9 Tryd.underlying9
    have hne : (((19 - k : Nat) : Int) == 0) = false := by simp; omega
    rw [Nat.zero_add] at hc9 ⊢
    clear htx hbs hk hlen hcells hconv harr
    go_wp2_with fail
    go_ret
    exact ⟨by rw [← HBS.out]; rfl, hbC⟩
end Go.Proofs.YtbieldebkfkpkaaDoor
