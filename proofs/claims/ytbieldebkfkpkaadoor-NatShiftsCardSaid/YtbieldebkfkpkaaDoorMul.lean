/-
  Contract of nat.multiply, for every cut.
  Contract of nat.Mul.
-/
import Derived.Test.YtbieldebkfkpkaaDoorMulHalves
namespace Go.Proofs.YtbieldebkfkpkaaDoor
open Go.RowKit


set_option maxRecDepth 100000 in
set_option maxHeartbeats 4000000 in
/-- One call, what it does on shorter numbers being given; the first is not the shorter. -/
theorem multiply_step (g off no co : Nat) (lo : List Int) (aa : Option Addr) (na ca : Nat) (la : List Int) (ab : Option Addr) (nb' cb : Nat) (lb : List Int) (cut : Int) (w : World) (ih : MulAt (na + nb')) (hno : no = lo.length) (hna : na = la.length) (hnb : nb' = lb.length)
    (ho1 : no ≤ co) (ho2 : co ≤ 9223372036854775807) (hc1 : na ≤ ca) (hc2 : ca ≤ 9223372036854775807) (hd1 : nb' ≤ cb) (hd2 : cb ≤ 9223372036854775807)
    (ho : Arr w g off lo) (ha : Rd w aa la) (hb : Rd w ab lb) (hna' : la ≠ [] → ∀ b' off', aa = some ⟨b', off', none⟩ → b' ≠ g) (hnb'' : lb ≠ [] → ∀ b' off', ab = some ⟨b', off', none⟩ → b' ≠ g)
    (hla : Lim B64 la) (hlb : Lim B64 lb) (hsum : no = na + nb') (hM : no ≤ 17592186040000) (hcut : 2 ≤ cut) (hcut2 : cut ≤ 9223372036854775807) :
    Calls Tryd.prog 88 #[.slice (some ⟨g, off, none⟩) no co, .slice aa na ca, .slice ab nb' cb, .int .i64 cut] w fun e w' => e = .returned (.tuple #[]) ∧ InPl g off no (vb B64 la * vb B64 lb) w w' := by
  rcases Nat.lt_or_ge na nb' with hlt | hge
  · -- the two change places
    have hI : (na : Int) < (nb' : Int) := by omega
    rcases Int.lt_or_le (na : Int) cut with hc | hc
    · have HC := Lib.hid (multiplyRows_any g off no co lo ab nb' cb lb aa na ca la w hno hnb hna ho1 ho2 hd1 hd2 hc1 hc2 ho hb ha hnb'' hna' hlb hla (by omega))
      rw [Int.mul_comm (vb B64 lb)] at HC
      clear ih hno hna hnb ho ha hb hna' hnb'' hla hlb hsum hlt
      go_enter Tryd.func88, Tryd.ntmps88
      go_wp2_with (go_at_call 103; refine HC.out.mono ?_; rintro e w' ⟨rfl, hin⟩)
      go_end0
      exact ⟨rfl, hin⟩
    · have ih2 : MulAt (nb' + na) := by rw [Nat.add_comm]; exact ih
      have HC := Lib.hid (multiplyPieces_any g off no co lo ab nb' cb lb aa na ca la cut w ih2 hno hnb hna ho1 ho2 hd1 hd2 hc1 hc2 ho hb ha hnb'' hna' hlb hla (by omega) hM hcut hcut2 hlt (by omega))
      rw [Int.mul_comm (vb B64 lb)] at HC
      have hc' : ¬ (na : Int) < cut := by omega
      clear ih ih2 hno hna hnb ho ha hb hna' hnb'' hla hlb hsum hlt
      go_enter Tryd.func88, Tryd.ntmps88
      go_wp2_with (go_at_call 104; refine HC.out.mono ?_; rintro e w' ⟨rfl, hin⟩)
      go_end0
      exact ⟨rfl, hin⟩
  · have hI : ¬ (na : Int) < (nb' : Int) := by omega
    rcases Int.lt_or_le (nb' : Int) cut with hc | hc
    · have HC := Lib.hid (multiplyRows_any g off no co lo aa na ca la ab nb' cb lb w hno hna hnb ho1 ho2 hc1 hc2 hd1 hd2 ho ha hb hna' hnb'' hla hlb hsum)
      clear ih hno hna hnb ho ha hb hna' hnb'' hla hlb hsum hge
      go_enter Tryd.func88, Tryd.ntmps88
      go_wp2_with (go_at_call 103; refine HC.out.mono ?_; rintro e w' ⟨rfl, hin⟩)
      go_end0
      exact ⟨rfl, hin⟩
    · have hc' : ¬ (nb' : Int) < cut := by omega
      rcases Nat.lt_or_ge nb' na with hl2 | hl2
      · have HC := Lib.hid (multiplyPieces_any g off no co lo aa na ca la ab nb' cb lb cut w ih hno hna hnb ho1 ho2 hc1 hc2 hd1 hd2 ho ha hb hna' hnb'' hla hlb hsum hM hcut hcut2 hl2 (by omega))
        have hl2I : (nb' : Int) < (na : Int) := by omega
        clear ih hno hna hnb ho ha hb hna' hnb'' hla hlb hsum hge hl2
        go_enter Tryd.func88, Tryd.ntmps88
        go_wp2_with (go_at_call 104; refine HC.out.mono ?_; rintro e w' ⟨rfl, hin⟩)
        go_end0
        exact ⟨rfl, hin⟩
      · obtain rfl : na = nb' := by omega
        have HC := Lib.hid (multiplyHalves_any g off no co lo aa na ca la ab cb lb cut w ih hno hna hnb ho1 ho2 hc1 hc2 hd1 hd2 ho ha hb hna' hnb'' hla hlb hsum hM hcut hcut2 (by omega))
        clear ih hno hna hnb ho ha hb hna' hnb'' hla hlb hsum hge hl2
        go_enter Tryd.func88, Tryd.ntmps88
        go_wp2_with (go_at_call 105; refine HC.out.mono ?_; rintro e w' ⟨rfl, hin⟩)
        go_end0
        exact ⟨rfl, hin⟩

/-- For numbers of every length. -/
theorem multiply_all : ∀ S, MulAt S := by
  intro S
  induction S with
  | zero => intro g off no co lo aa na ca la ab nb' cb lb cut w h; exact absurd h (Nat.not_lt_zero _)
  | succ S ih =>
    intro g off no co lo aa na ca la ab nb' cb lb cut w h hno hna hnb ho1 ho2 hc1 hc2 hd1 hd2 ho ha hb hna' hnb'' hla hlb hsum hM hcut hcut2
    refine multiply_step g off no co lo aa na ca la ab nb' cb lb cut w ?_ hno hna hnb ho1 ho2 hc1 hc2 hd1 hd2 ho ha hb hna' hnb'' hla hlb hsum hM hcut hcut2
    intro g off no co lo aa na' ca la ab nb2 cb lb cut w h'
    exact ih g off no co lo aa na' ca la ab nb2 cb lb cut w (by omega)


set_option maxRecDepth 100000 in
set_option maxHeartbeats 1000000 in
theorem mul_any (cut : Int) (aa : Option Addr) (na ca : Nat) (la : List Int) (ab : Option Addr) (nb' cb : Nat) (lb : List Int) (w : World) (hna : na = la.length) (hnb : nb' = lb.length)
    (hc1 : na ≤ ca) (hc2 : ca ≤ 9223372036854775807) (hd1 : nb' ≤ cb) (hd2 : cb ≤ 9223372036854775807) (ha : Rd w aa la) (hb : Rd w ab lb) (hla : Lim B64 la) (hlb : Lim B64 lb) (hM : na + nb' ≤ 17592186040000) (hcut2 : cut ≤ 9223372036854775807) :
    Calls Tryd.prog 63 #[.int .i64 cut, .slice aa na ca, .slice ab nb' cb] w fun e w' => RetNum w (vb B64 la * vb B64 lb) e w' := by
  have ta := tlen_le la
  have tb := tlen_le lb
  have HTA := Lib.hid (trim_any aa na ca la w hna hc1 hc2 ha)
  have HTB := Lib.hid (trim_any ab nb' cb lb w hnb hd1 hd2 hb)
  obtain ⟨m, hm⟩ : ∃ m, m = tlen la := ⟨_, rfl⟩
  obtain ⟨n, hn⟩ : ∃ n, n = tlen lb := ⟨_, rfl⟩
  rw [← hm] at HTA
  rw [← hn] at HTB
  have hmc : m ≤ ca := by omega
  have hnc : n ≤ cb := by omega
  obtain ⟨N, hN⟩ : ∃ N, m + n = N := ⟨_, rfl⟩
  have hNI : (m : Int) + (n : Int) = (N : Int) := by omega
  have hNM : N ≤ MaxW := by unfold MaxW; omega
  have hN2 : N ≤ 17592186040000 := by omega
  obtain ⟨ct, hct⟩ : ∃ ct, max cut 2 = ct := ⟨_, rfl⟩
  have hct1 : 2 ≤ ct := by omega
  have hct2 : ct ≤ 9223372036854775807 := by omega
  have hra := ha.take (tlen la)
  have hrb := hb.take (tlen lb)
  have hma : m = (tr la).length := by rw [tr_length]; exact hm
  have hnb2 : n = (tr lb).length := by rw [tr_length]; exact hn
  have HMA := Lib.hid hma
  have HNB := Lib.hid hnb2
  have HN := Lib.hid hN
  clear hna hnb ha hb hma hnb2 hm hn hN ta tb
  go_enter Tryd.func63, Tryd.ntmps63
  go_wp2_with fail
  refine HTA.out.mono ?_
  rintro e w' ⟨rfl, rfl⟩
  go_wp2_with fail
  refine HTB.out.mono ?_
  rintro e w' ⟨rfl, rfl⟩
  go_wp2_with (at_make; refine wpList_make_words w rfl (.tmp 16) (.tmp 16) 28 rfl Tryd.underlying28 info_u64 _ _ N rfl rfl (by omega) (by omega) hNM ?_; intro w1 hw1 hb1 hs1)
  have harr := hw1.arr.1
  refine (multiply_all (m + n + 1) w.heap.size 0 N N (List.replicate N 0) aa m ca (tr la) ab n cb (tr lb) ct w1 (by omega) (by simp) HMA.out HNB.out (Nat.le_refl _) (by omega) hmc hc2 hnc hd2 harr (hra.below hb1) (hrb.below hb1) ?_ ?_ (hla.take _) (hlb.take _) HN.out.symm hN2 hct1 hct2).mono ?_
  · intro hne b' off' e
    subst e
    have h1 := hra.at'.lt hne
    omega
  · intro hne b' off' e
    subst e
    have h1 := hrb.at'.lt hne
    omega
  · rintro e w2 ⟨rfl, lz, hlz, hlimz, Z, hvz, onz⟩
    rw [vb_tr, vb_tr] at hvz
    have hOz := hw1.only onz Z (by rw [hlz, List.length_replicate])
    have hb2 : Below w.heap.size w w2 := hb1.trans (onz.below (Nat.le_refl _) (by omega))
    have HLZ := Lib.hid hlz
    have HVZ := Lib.hid hvz
    have htl := tlen_le lz
    rw [hlz] at htl
    clear hlz hvz
    go_wp2_with (go_at_call 68; refine (trim_any (some ⟨w.heap.size, 0, none⟩) N N lz w2 HLZ.out.symm (Nat.le_refl _) (by omega) (Rd.of_at Z.at')).mono ?_; rintro e w' ⟨rfl, rfl⟩)
    go_ret
    exact ⟨_, tr lz, rfl, hOz.take (tlen lz) htl, can_tr hlimz, by rw [vb_tr]; exact HVZ.out, hb2⟩

end Go.Proofs.YtbieldebkfkpkaaDoor
