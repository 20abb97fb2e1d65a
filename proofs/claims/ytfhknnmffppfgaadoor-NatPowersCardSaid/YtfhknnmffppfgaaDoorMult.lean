/-
  Contract of nat.multiply, for every cut.
-/
import Derived.Test.YtfhknnmffppfgaaDoorMulHalves
namespace Go.Proofs.YtfhknnmffppfgaaDoor
open Go.RowKit

set_option maxRecDepth 100000 in
set_option maxHeartbeats 4000000 in
/-- One call, what it does on shorter numbers being given; the first is not the shorter. -/
theorem multiply_step (g off no co : Nat) (lo : List Int) (aa : Option Addr) (na ca : Nat) (la : List Int) (ab : Option Addr) (nb' cb : Nat) (lb : List Int) (cut : Int) (w : World) (ih : MulAt (na + nb')) (hno : no = lo.length) (hna : na = la.length) (hnb : nb' = lb.length)
    (ho1 : no ≤ co) (ho2 : co ≤ 9223372036854775807) (hc1 : na ≤ ca) (hc2 : ca ≤ 9223372036854775807) (hd1 : nb' ≤ cb) (hd2 : cb ≤ 9223372036854775807)
    (ho : Arr w g off lo) (ha : Rd w aa la) (hb : Rd w ab lb) (hna' : la ≠ [] → ∀ b' off', aa = some ⟨b', off', none⟩ → b' ≠ g) (hnb'' : lb ≠ [] → ∀ b' off', ab = some ⟨b', off', none⟩ → b' ≠ g)
    (hla : Lim B64 la) (hlb : Lim B64 lb) (hsum : no = na + nb') (hM : no ≤ 17592186040000) (hcut : 2 ≤ cut) (hcut2 : cut ≤ 9223372036854775807) :
    Calls Tryd.prog 70 #[.slice (some ⟨g, off, none⟩) no co, .slice aa na ca, .slice ab nb' cb, .int .i64 cut] w fun e w' => e = .returned (.tuple #[]) ∧ InPl g off no (vb B64 la * vb B64 lb) w w' := by
  rcases Nat.lt_or_ge na nb' with hlt | hge
  · -- the two change places
    have hI : (na : Int) < (nb' : Int) := by omega
    rcases Int.lt_or_le (na : Int) cut with hc | hc
    · have HC := Lib.hid (multiplyRows_any g off no co lo ab nb' cb lb aa na ca la w hno hnb hna ho1 ho2 hd1 hd2 hc1 hc2 ho hb ha hnb'' hna' hlb hla (by omega))
      rw [Int.mul_comm (vb B64 lb)] at HC
      clear ih hno hna hnb ho ha hb hna' hnb'' hla hlb hsum hlt
      go_enter Tryd.func70, Tryd.ntmps70
      go_wp2_with (go_at_call 100; refine HC.out.mono ?_; rintro e w' ⟨rfl, hin⟩)
      go_end0
      exact ⟨rfl, hin⟩
    · have ih2 : MulAt (nb' + na) := by rw [Nat.add_comm]; exact ih
      have HC := Lib.hid (multiplyPieces_any g off no co lo ab nb' cb lb aa na ca la cut w ih2 hno hnb hna ho1 ho2 hd1 hd2 hc1 hc2 ho hb ha hnb'' hna' hlb hla (by omega) hM hcut hcut2 hlt (by omega))
      rw [Int.mul_comm (vb B64 lb)] at HC
      have hc' : ¬ (na : Int) < cut := by omega
      clear ih ih2 hno hna hnb ho ha hb hna' hnb'' hla hlb hsum hlt
      go_enter Tryd.func70, Tryd.ntmps70
      go_wp2_with (go_at_call 101; refine HC.out.mono ?_; rintro e w' ⟨rfl, hin⟩)
      go_end0
      exact ⟨rfl, hin⟩
  · have hI : ¬ (na : Int) < (nb' : Int) := by omega
    rcases Int.lt_or_le (nb' : Int) cut with hc | hc
    · have HC := Lib.hid (multiplyRows_any g off no co lo aa na ca la ab nb' cb lb w hno hna hnb ho1 ho2 hc1 hc2 hd1 hd2 ho ha hb hna' hnb'' hla hlb hsum)
      clear ih hno hna hnb ho ha hb hna' hnb'' hla hlb hsum hge
      go_enter Tryd.func70, Tryd.ntmps70
      go_wp2_with (go_at_call 100; refine HC.out.mono ?_; rintro e w' ⟨rfl, hin⟩)
      go_end0
      exact ⟨rfl, hin⟩
    · have hc' : ¬ (nb' : Int) < cut := by omega
      rcases Nat.lt_or_ge nb' na with hl2 | hl2
      · have HC := Lib.hid (multiplyPieces_any g off no co lo aa na ca la ab nb' cb lb cut w ih hno hna hnb ho1 ho2 hc1 hc2 hd1 hd2 ho ha hb hna' hnb'' hla hlb hsum hM hcut hcut2 hl2 (by omega))
        have hl2I : (nb' : Int) < (na : Int) := by omega
        clear ih hno hna hnb ho ha hb hna' hnb'' hla hlb hsum hge hl2
        go_enter Tryd.func70, Tryd.ntmps70
        go_wp2_with (go_at_call 101; refine HC.out.mono ?_; rintro e w' ⟨rfl, hin⟩)
        go_end0
        exact ⟨rfl, hin⟩
      · obtain rfl : na = nb' := by omega
        have HC := Lib.hid (multiplyHalves_any g off no co lo aa na ca la ab cb lb cut w ih hno hna hnb ho1 ho2 hc1 hc2 hd1 hd2 ho ha hb hna' hnb'' hla hlb hsum hM hcut hcut2 (by omega))
        clear ih hno hna hnb ho ha hb hna' hnb'' hla hlb hsum hge hl2
        go_enter Tryd.func70, Tryd.ntmps70
        go_wp2_with (go_at_call 102; refine HC.out.mono ?_; rintro e w' ⟨rfl, hin⟩)
        go_end0
        exact ⟨rfl, hin⟩

/-- For numbers of every length. -/
theorem multiply_all : ∀ S, MulAt S := by
  intro S
  induction S with
  | zero => intro g off no co lo aa na ca la ab nb' cb lb cut w h; exact absurd h (Nat.not_lt_zero _)
  | succ S ih =>
    intro g off no co lo aa na ca la ab nb' cb lb cut w h hno hna hnb ho1 ho2 hc1 hc2 hd1 hd2 ho ha hb hna' hnb'' hla hlb hsum hM hcut hcut2
    refine multiply_step g off no co lo aa na ca la ab nb' cb lb cut w ?_ hno hna hnb ho1 ho2 hc1 hc2 hd1 hd2 ho ha hb hna' hnb'' hla hlb hsum hM hcut hcut2
    intro g off no co lo aa na' ca la ab nb2 cb lb cut w h'
    exact ih g off no co lo aa na' ca la ab nb2 cb lb cut w (by omega)

end Go.Proofs.YtfhknnmffppfgaaDoor
