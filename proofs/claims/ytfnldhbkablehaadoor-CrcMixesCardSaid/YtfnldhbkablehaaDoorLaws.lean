import Derived.Test.YtfnldhbkablehaaDoorProg
import Derived.Test.YtfnldhbkablehaaDoorMath
import Derived.WalkKit
import Derived.WalkSpells
import Derived.WalkLawsBesides
import Derived.Lib.Hide
import Derived.Shelf.Pu.Clone
import Derived.Deep.QuietTactic
import Derived.BigQuiet
import Derived.Lib.QuietBelow
import Derived.Test.YtfnldhbkablehaaDoorWalks1
import Derived.Test.YtfnldhbkablehaaDoorWalks2
namespace Go.Proofs.YtfnldhbkablehaaDoor
open Go.RowKit
theorem Below.next {w a b : World} (h : Below w.heap.size w a) (k : Below a.heap.size a b) : Below w.heap.size w b := h.trans (k.mono h.size)

set_option maxHeartbeats 1000000 in
theorem works_any (w : World) (hf : Fours w) :
    Calls Tryd.prog 15 #[] w fun e w' => e = .returned (.bool true) ∧ Below w.heap.size w w' := by
  have c1 := open_const ⟨#[0, 0, 0, 0]⟩ ⟨#[]⟩ true k4 k5 (by decide)
  have c2 := open_const ⟨#[97, 98, 99]⟩ ⟨#[]⟩ false k6 k7 (by decide)
  have c3 := sum_const ⟨#[]⟩ 0 k0 (by decide)
  have c4 := sum_const ⟨#[97]⟩ 3904355907 k1 (by decide)
  have c5 := sum_const ⟨#[49, 50, 51, 52, 53, 54, 55, 56, 57]⟩ 3421780262 k2 (by decide)
  have c6 := seal_const ⟨#[49, 50, 51, 52, 53, 54, 55, 56, 57]⟩ _ k3 (by decide)
  have hb := Below.refl w.heap.size w
  go_enter Tryd.func15, Tryd.ntmps15
  go_wp2_with (first
    | (go_at_call 8; (first | with_reducible refine (c1 _ (hf.below hb)).mono ?_ | with_reducible refine (c2 _ (hf.below hb)).mono ?_); rintro e w1 ⟨rfl, hb1⟩; replace hb := Below.next hb hb1; clear hb1)
    | (go_at_call 11; (first | with_reducible refine (c3 _ (hf.below hb)).mono ?_ | with_reducible refine (c4 _ (hf.below hb)).mono ?_ | with_reducible refine (c5 _ (hf.below hb)).mono ?_); rintro e w1 ⟨rfl, hb1⟩; replace hb := Below.next hb hb1; clear hb1)
    | (go_at_call 13; (with_reducible refine (c6 _ (hf.below hb)).mono ?_); rintro e w1 ⟨rfl, hb1⟩; replace hb := Below.next hb hb1; clear hb1))
  go_ret
  exact ⟨rfl, hb⟩

theorem more_lit (x : Int) (n : Nat) (s : ByteArray) (m : Nat) (hx : (n : Int) = x) (hm : Plain.more n s.data.toList = m) (hn : n < 4294967296) (hs : s.size ≤ maxLen) (w : World) (hf : Fours w) :
    Calls Tryd.prog 14 #[.int .u32 x, .string s] w fun e w' => e = .returned (.int .u32 (m : Int)) ∧ Below w.heap.size w w' := hx ▸ more_const n s m hm hn hs w hf

theorem n1 : isSeal ⟨#[49, 50, 51, 52, 53, 54, 55, 56, 57, 38, 57, 244, 203]⟩ = true := by kernel_rfl
theorem n2 : opened ⟨#[49, 50, 51, 52, 53, 54, 55, 56, 57, 38, 57, 244, 203]⟩ = ⟨#[49, 50, 51, 52, 53, 54, 55, 56, 57]⟩ := by kernel_rfl
theorem n3 : isSeal ⟨#[49, 50, 51, 52, 53, 54, 55, 56, 57, 203, 244, 57, 38]⟩ = false := by kernel_rfl
theorem n4 : opened ⟨#[49, 50, 51, 52, 53, 54, 55, 56, 57, 203, 244, 57, 38]⟩ = ⟨#[]⟩ := by kernel_rfl
theorem n5 : isSeal ⟨#[]⟩ = false := by kernel_rfl
theorem n6 : opened ⟨#[]⟩ = ⟨#[]⟩ := by kernel_rfl
theorem n7 : Plain.sum (ByteArray.mk #[84, 104, 101, 32, 113, 117, 105, 99, 107, 32, 98, 114, 111, 119, 110, 32, 102, 111, 120, 32, 106, 117, 109, 112, 115, 32, 111, 118, 101, 114, 32, 116, 104, 101, 32, 108, 97, 122, 121, 32, 100, 111, 103]).data.toList = 1095738169 := by kernel_rfl
theorem n8 : Plain.sum (ByteArray.mk #[0]).data.toList = 3523407757 := by kernel_rfl
theorem n9 : Plain.sum (ByteArray.mk #[255, 255, 255, 255]).data.toList = 4294967295 := by kernel_rfl
theorem n10 : Plain.sum (ByteArray.mk #[0, 0, 0, 0]).data.toList = 558161692 := by kernel_rfl
theorem n11 : Plain.sum (ByteArray.mk #[49, 50, 51, 52, 53]).data.toList = 3421846044 := by kernel_rfl
theorem n12 : Plain.more 3421846044 (ByteArray.mk #[54, 55, 56, 57]).data.toList = 3421780262 := by kernel_rfl
theorem n13 : Plain.more 7 (ByteArray.mk #[]).data.toList = 7 := by kernel_rfl
theorem n14 : Plain.more 0 (ByteArray.mk #[97]).data.toList = 3904355907 := by kernel_rfl

set_option maxHeartbeats 2000000 in
theorem known_any (w : World) (hf : Fours w) :
    Calls Tryd.prog 6 #[] w fun e w' => e = .returned (.bool true) ∧ Below w.heap.size w w' := by
  have c1 := open_const _ _ _ n1 n2 (by decide)
  have c2 := open_const _ _ _ n3 n4 (by decide)
  have c3 := open_const _ _ _ n5 n6 (by decide)
  have s1 := sum_const _ _ n7 (by decide)
  have s2 := sum_const _ _ n8 (by decide)
  have s3 := sum_const _ _ n9 (by decide)
  have s4 := sum_const _ _ n10 (by decide)
  have s5 := sum_const _ _ k1 (by decide)
  have s6 := sum_const _ _ n11 (by decide)
  have m1 := more_lit 0 0 _ _ rfl n14 (by decide) (by decide)
  have m2 := more_lit 3421846044 3421846044 _ _ rfl n12 (by decide) (by decide)
  have m3 := more_lit 7 7 _ _ rfl n13 (by decide) (by decide)
  have hb := Below.refl w.heap.size w
  go_enter Tryd.func6, Tryd.ntmps6
  go_wp2_with (first
    | (go_at_call 8; (first | with_reducible refine (c1 _ (hf.below hb)).mono ?_ | with_reducible refine (c2 _ (hf.below hb)).mono ?_ | with_reducible refine (c3 _ (hf.below hb)).mono ?_); rintro e w1 ⟨rfl, hb1⟩; replace hb := Below.next hb hb1; clear hb1)
    | (go_at_call 15; with_reducible refine (works_any _ (hf.below hb)).mono ?_; rintro e w1 ⟨rfl, hb1⟩; replace hb := Below.next hb hb1; clear hb1)
    | (go_at_call 11; (first | with_reducible refine (s1 _ (hf.below hb)).mono ?_ | with_reducible refine (s2 _ (hf.below hb)).mono ?_ | with_reducible refine (s3 _ (hf.below hb)).mono ?_ | with_reducible refine (s4 _ (hf.below hb)).mono ?_ | with_reducible refine (s5 _ (hf.below hb)).mono ?_ | with_reducible refine (s6 _ (hf.below hb)).mono ?_); rintro e w1 ⟨rfl, hb1⟩; replace hb := Below.next hb hb1; clear hb1)
    | (go_at_call 14; (first | with_reducible refine (m1 _ (hf.below hb)).mono ?_ | with_reducible refine (m2 _ (hf.below hb)).mono ?_ | with_reducible refine (m3 _ (hf.below hb)).mono ?_); rintro e w1 ⟨rfl, hb1⟩; replace hb := Below.next hb hb1; clear hb1))
  go_ret
  exact ⟨rfl, hb⟩

end Go.Proofs.YtfnldhbkablehaaDoor
