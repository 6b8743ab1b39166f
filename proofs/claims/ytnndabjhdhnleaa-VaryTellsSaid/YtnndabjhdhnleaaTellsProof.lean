/-
  VaryTells answers true for every input, whatever the memory and the schedule. No condition.
-/
import Derived.Test.YtnndabjhdhnleaaTellsWalk
import Derived.Test.YtnndabjhdhnleaaNums
import Derived.Test.YtnndabjhdhnleaaRows
import Derived.ProofKit
import Derived.OpenShut
namespace Go.Proofs.Ytnndabjhdhnleaa
open Go.ChangeShapes Go.WideShapes Go.ChangeAt Go.RowKit
open Go.ChangeMaps (open_string shut_string)

theorem tells_all (l : List Nat) (ad : Option Addr) (len cap : Nat) (s : ByteArray) (cut : Int) (W : World) (hl : ∀ n ∈ l, n < 18446744073709551616) (hll : l.length = len) (hlc : len ≤ cap) (hcm : cap ≤ 9223372036854775807)
    (hnum : Nums W (.slice ad len cap) l) (hs : s.size ≤ 9223372036854775807) :
    Calls Try.prog 3 #[.slice ad len cap, .string s, .int .i64 cut] W fun e w' => e = .returned (.bool true) ∧ Below W.heap.size W w' := by
  have hm : min len 40 ≤ len := Nat.min_le_left _ _
  refine tells_walk (l.take (min len 40)) ad len (min len 40) cap cut s (s.extract 0 (min s.size 100)) (min s.size 100) W (fun n hn => hl n (List.mem_of_mem_take hn)) (Nat.min_le_right _ _) (by rw [List.length_take, hll, Nat.min_eq_left hm]) hlc hcm (by omega) hs (by omega) rfl ?_ (hnum.take hll hm)
  rw [← ba_length, ba_extract, List.drop_zero, Nat.sub_zero, List.length_take, ba_length]
  omega

set_option maxRecDepth 100000 in
theorem varyTells_lifted (os : Os) (started : os.Started) (H : Type) (enc : TypeId × Value → H) :
    ReturnsInHanded {} Try.checked os 3 .any (Rows.varyTellsSpec.pre6 enc Try.prog Try.f3 Rows.varyTellsRow.domain false) (Rows.varyTellsSpec.post enc Try.prog Try.f3 false true false false) := by
  refine returnsInHanded_of_change (C := Try.checked) (show ownKnob Try.prog.godebug = none by kernel_rfl) started (by kernel_rfl) Try.func3
    (ChangeSpec.witness6 (enc := enc) (C := Try.checked) false ⟨#[], #[.slice none 0 0, .string ⟨#[]⟩, .int .i64 0], []⟩ 8 (by kernel_rfl) (by kernel_rfl) (by kernel_rfl) (by kernel_rfl)) ?_
  intro W base args ds gs before hval0 hW _ _
  have hval : ∀ (j : Nat) t v, Try.f3.params[j]? = some t → args[j]? = some v → Value.okWide Try.prog W .any base t v := hval0
  have hW' := hW
  obtain ⟨p, q, hA0, hV, rfl, _, _⟩ := hW
  have hA : DataW.TrodAll enc Try.prog W 0 (fun _ => true) true Try.f3.params.toList args.toList ds p := hA0
  rw [Try.params3] at hA hval
  obtain ⟨v0, v1, v2, d0, d1, d2, p0, p1, p2, rfl, rfl, rfl, h0, h1, h2⟩ := trodAll_three hA
  obtain ⟨rfl, rfl⟩ := trodVars_none hV
  obtain ⟨a0, len, cap, rfl⟩ := okWide_slice Try.underlying22 (hval 0 22 v0 rfl rfl)
  have h0k := h0
  obtain ⟨fuel, hf⟩ := h0
  obtain ⟨l, hll, hlc, hcm, hl64, hnum⟩ := nums_of_trod hf
  obtain ⟨s, rfl, rfl, rfl, hs⟩ := open_string Try.underlying9 (hval 1 9 v1 rfl rfl) h1
  obtain ⟨cut, rfl, rfl, rfl, wcut⟩ := open_int Try.underlying3 (hval 2 3 v2 rfl rfl) h2
  clear hA0 hval0
  simp only [List.append_nil] at hW'
  have hlt : ∀ x ∈ p0, x.block < W.heap.size := fun x hx => by simpa using hW'.lt x (by simp [hx])
  refine (tells_all l a0 len cap s cut W hl64 hll hlc hcm hnum hs).mono fun e W' ⟨he, hb⟩ => ?_
  subst he
  exact ⟨_, rfl, _, _, _, [], _, [], hW', trodAll_mk1 (shut_bool Try.underlying4 true), trodAll_mk3 (Below.trod laidOut (by kernel_rfl) (of_decide_eq_true (by kernel_rfl)) h0k hb hlt) (shut_string Try.underlying9 hs) (shut_int Try.underlying3 wcut), rfl, hb.frame _, fun h => by cases h⟩

theorem varyTells_holds : Rows.VaryTellsSaid :=
  OpenClaim.holds_of_wide 3 Try.f3 rfl rfl rfl rfl rfl rfl rfl ⟨rfl, rfl, rfl, rfl, rfl⟩ rfl rfl rfl rfl rfl (by kernel_rfl) Try.func3 (by kernel_rfl)
    (of_decide_eq_true (by kernel_rfl)) (by unfold Func.isWrapper; first | (rw [if_pos (by decide +kernel)]; kernel_rfl) | (rw [if_neg (by decide +kernel)]; exact ⟨rfl, rfl⟩))
    (fun os started H enc _ => varyTells_lifted os started H enc)
end Go.Proofs.Ytnndabjhdhnleaa
