/-
  EntryKnown: its walk.
-/
import Derived.Test.YtfnmmnbndfdpiaaEKnown1
namespace Go.Proofs.Ytfnmmnbndfdpiaa
open Go.RowKit Go.Sort

set_option maxHeartbeats 4000000 in
set_option maxRecDepth 100000 in
theorem known_walk (R A : ByteArray) (hR : R.size = 255) (hA : A.size = 261) (hA6 : ((A.extract 0 6).toList == [1, 251, 255, 255, 255, 255]) = true)
    (q30 : ∀ W, Calls Try.prog 30 #[.string ⟨#[119]⟩, .int .i64 255] W fun e w' => e = .returned (.string R) ∧ RowKit.Below W.heap.size W w')
    (q8a : ∀ W, Calls Try.prog 8 #[.agg #[.string R, .int .u32 4294967295, .bool false]] W fun e w' => e = .returned (.tuple #[.string A, .int .i64 0]) ∧ RowKit.Below W.heap.size W w')
    (q8b : ∀ W, Calls Try.prog 8 #[.agg #[.string (R ++ ⟨#[119]⟩), .int .u32 0, .bool false]] W fun e w' => e = .returned (.tuple #[.string ⟨#[]⟩, .int .i64 7]) ∧ RowKit.Below W.heap.size W w')
    (g1 : ∀ W, Calls Try.prog 29 #[.string A, .agg #[.string R, .int .u32 4294967295, .bool false], .int .i64 0] W fun e w' => e = .returned (.bool true) ∧ RowKit.Below W.heap.size W w')
    (g5 : ∀ W, Calls Try.prog 29 #[.string (⟨#[2]⟩ ++ R ++ ⟨#[119]⟩), .agg #[.string ⟨#[]⟩, .int .u32 0, .bool false], .int .i64 7] W fun e w' => e = .returned (.bool true) ∧ RowKit.Below W.heap.size W w')
    (w : World) : Calls Try.prog 7 #[] w fun e w' => e = .returned (.bool true) ∧ RowKit.Below w.heap.size w w' := by
  have q8c : ∀ W, Calls Try.prog 8 #[.agg #[.string ⟨#[]⟩, .int .u32 0, .bool false]] W fun e w' => e = .returned (.tuple #[.string ⟨#[]⟩, .int .i64 7]) ∧ RowKit.Below W.heap.size W w' := fun W => put_is ⟨#[]⟩ 0 false (by decide) (by decide) [] 7 rfl W
  have q14a : ∀ W, Calls Try.prog 14 #[.string ⟨#[120]⟩, .int .u64 4294967296] W fun e w' => e = .returned (.tuple #[.agg #[.string ⟨#[120]⟩, .int .u32 4294967295, .bool false], .bool true]) ∧ RowKit.Below W.heap.size W w' := fun W => of_as ⟨#[120]⟩ 4294967296 4294967296 (by simp) (by omega) _ of_max W
  have q14b : ∀ W, Calls Try.prog 14 #[.string ⟨#[120]⟩, .int .u64 4294967297] W fun e w' => e = .returned (.tuple #[.agg #[.string ⟨#[]⟩, .int .u32 0, .bool false], .bool false]) ∧ RowKit.Below W.heap.size W w' := fun W => of_as ⟨#[120]⟩ 4294967297 4294967297 (by simp) (by omega) _ of_over W
  have q19a : ∀ W g, g = W.heap.size → Calls Try.prog 19 #[.slice (some ⟨g, 0, none⟩) 2 2] (W.alloc (.cells #[.string ⟨#[97]⟩, .int .u32 0, .bool false, .string ⟨#[97]⟩, .int .u32 0, .bool false] 24)) fun e w' => e = .returned (.tuple #[.int .i64 1, .int .i64 15]) ∧ RowKit.Below W.heap.size W w' := fun W g hg =>
    check_lit [⟨⟨#[97]⟩, 0, false⟩, ⟨⟨#[97]⟩, 0, false⟩] (by intro x hx; simp at hx; subst hx; decide) (by decide) (1, 15) rfl _ rfl 2 rfl W g hg
  have q19b : ∀ W g, g = W.heap.size → Calls Try.prog 19 #[.slice (some ⟨g, 0, none⟩) 2 2] (W.alloc (.cells #[.string ⟨#[98]⟩, .int .u32 0, .bool false, .string ⟨#[]⟩, .int .u32 0, .bool false] 24)) fun e w' => e = .returned (.tuple #[.int .i64 1, .int .i64 7]) ∧ RowKit.Below W.heap.size W w' := fun W g hg =>
    check_lit [⟨⟨#[98]⟩, 0, false⟩, ⟨⟨#[]⟩, 0, false⟩] (by intro x hx; simp at hx; rcases hx with rfl | rfl <;> decide) (by decide) (1, 7) rfl _ rfl 2 rfl W g hg
  have q19c : ∀ W, Calls Try.prog 19 #[.slice none 0 0] W fun e w' => e = .returned (.tuple #[.int .i64 (-1), .int .i64 0]) ∧ RowKit.Below W.heap.size W w' := fun W => entCheck_any [] _ W (ents_nil W) (by intro x hx; simp at hx) (by decide)
  have q26 : ∀ W g, g = W.heap.size → Calls Try.prog 26 #[.slice (some ⟨g, 0, none⟩) 2 2, .string ⟨#[98]⟩] (W.alloc (.cells #[.string ⟨#[97]⟩, .int .u32 0, .bool false, .string ⟨#[99]⟩, .int .u32 0, .bool false] 24)) fun e w' => e = .returned (.tuple #[.agg #[.string ⟨#[]⟩, .int .u32 0, .bool false], .bool false]) ∧ RowKit.Below W.heap.size W w' := fun W g hg =>
    find_lit [⟨⟨#[97]⟩, 0, false⟩, ⟨⟨#[99]⟩, 0, false⟩] ⟨#[98]⟩ (by decide) (by decide) noE false rfl rfl _ rfl 2 rfl W g hg
  have q24a : ∀ W g, g = W.heap.size → Calls Try.prog 24 #[.slice none 0 0, .slice (some ⟨g, 0, none⟩) 1 1] (W.alloc (.cells #[.string ⟨#[122]⟩, .int .u32 9, .bool true] 24)) fun e w' => ∃ v', e = .returned v' ∧ RowE w' v' [⟨⟨#[122]⟩, 0, true⟩] ∧ RowKit.Below W.heap.size W w' := fun W g hg => by
    subst hg
    exact (with_any [] [⟨⟨#[122]⟩, 9, true⟩] _ _ _ rfl (by intro x hx; simp at hx) (rowE_nil _) (ents_lit [⟨⟨#[122]⟩, 9, true⟩] W) (by decide) (by decide)).mono fun e w' ⟨v', h1, h2, h3⟩ => ⟨v', h1, h2, below_lit h3⟩
  have q24b : ∀ W, Calls Try.prog 24 #[.slice none 0 0, .slice none 0 0] W fun e w' => ∃ v', e = .returned v' ∧ RowE w' v' [] ∧ RowKit.Below W.heap.size W w' := fun W => with_any [] [] _ _ W rfl (by intro x hx; simp at hx) (rowE_nil _) (ents_nil W) (by decide) (by decide)
  have q22 := fun W v (h : Ents W v [⟨⟨#[122]⟩, 0, true⟩]) => live_any [⟨⟨#[122]⟩, 0, true⟩] v W h (by decide)
  have g2 : ∀ W, Calls Try.prog 29 #[.string ⟨#[1, 252, 0, 0, 0, 0, 1, 120]⟩, .agg #[.string ⟨#[]⟩, .int .u32 0, .bool false], .int .i64 17] W fun e w' => e = .returned (.bool true) ∧ RowKit.Below W.heap.size W w' := fun W => getLaw_any ⟨#[1, 252, 0, 0, 0, 0, 1, 120]⟩ noE 17 W (by decide) (by kernel_rfl)
  have g3 : ∀ W, Calls Try.prog 29 #[.string ⟨#[1, 248, 7, 120]⟩, .agg #[.string ⟨#[]⟩, .int .u32 0, .bool false], .int .i64 5] W fun e w' => e = .returned (.bool true) ∧ RowKit.Below W.heap.size W w' := fun W => getLaw_any ⟨#[1, 248, 7, 120]⟩ noE 5 W (by decide) (by kernel_rfl)
  have g4 : ∀ W, Calls Try.prog 29 #[.string ⟨#[1, 7]⟩, .agg #[.string ⟨#[]⟩, .int .u32 0, .bool false], .int .i64 7] W fun e w' => e = .returned (.bool true) ∧ RowKit.Below W.heap.size W w' := fun W => getLaw_any ⟨#[1, 7]⟩ noE 7 W (by decide) (by kernel_rfl)
  have g6 : ∀ W, Calls Try.prog 29 #[.string ⟨#[0, 97]⟩, .agg #[.string ⟨#[]⟩, .int .u32 0, .bool false], .int .i64 6] W fun e w' => e = .returned (.bool true) ∧ RowKit.Below W.heap.size W w' := fun W => getLaw_any ⟨#[0, 97]⟩ noE 6 W (by decide) (by kernel_rfl)
  have g7 : ∀ W, Calls Try.prog 29 #[.string ⟨#[1, 249, 7]⟩, .agg #[.string ⟨#[]⟩, .int .u32 0, .bool false], .int .i64 3] W fun e w' => e = .returned (.bool true) ∧ RowKit.Below W.heap.size W w' := fun W => getLaw_any ⟨#[1, 249, 7]⟩ noE 3 W (by decide) (by kernel_rfl)
  have hR1 : ¬ 9223372036854775807 < R.size + 1 := by omega
  have hR2 : ¬ 9223372036854775807 < 1 + R.size := by omega
  have hR3 : ¬ 9223372036854775807 < 1 + R.size + 1 := by omega
  clear hR
  go_enter Try.func7, Try.ntmps7
  go_wp2_with (first
    | (go_at_call 30; (with_reducible refine (q30 _).mono ?_); rintro e w1 ⟨rfl, hb⟩)
    | (go_at_call 8; (with_reducible refine (q8a _).mono ?_); rintro e w2 ⟨rfl, hb'⟩; have hb := Below.next hb hb'; clear hb')
    | (go_at_call 8; (with_reducible refine (q8b _).mono ?_); rintro e w3 ⟨rfl, hb'⟩; have hb := Below.next hb hb'; clear hb')
    | (go_at_call 8; (with_reducible refine (q8c _).mono ?_); rintro e w4 ⟨rfl, hb'⟩; have hb := Below.next hb hb'; clear hb')
    | (go_at_call 14; (with_reducible refine (q14a _).mono ?_); rintro e w5 ⟨rfl, hb'⟩; have hb := Below.next hb hb'; clear hb'; have c8 := RowKit.Below.refl (w5.alloc (.cells #[.string ⟨#[120]⟩, .int .u32 4294967295, .bool false] 24)).heap.size (w5.alloc (.cells #[.string ⟨#[120]⟩, .int .u32 4294967295, .bool false] 24)))
    | (go_at_call 14; (with_reducible refine (q14b _).mono ?_); rintro e w6 ⟨rfl, hb'⟩; have c8 := Below.next c8 hb'; clear hb'; have c10 := RowKit.Below.refl (w6.alloc (.cells #[.string ⟨#[]⟩, .int .u32 0, .bool false] 24)).heap.size (w6.alloc (.cells #[.string ⟨#[]⟩, .int .u32 0, .bool false] 24)))
    | (go_at_call 19; (with_reducible refine (q19a _ _ (by simp)).mono ?_); rintro e w7 ⟨rfl, hb'⟩; have c10 := Below.next c10 hb'; clear hb')
    | (go_at_call 19; (with_reducible refine (q19b _ _ (by simp)).mono ?_); rintro e w8 ⟨rfl, hb'⟩; have c10 := Below.next c10 hb'; clear hb')
    | (go_at_call 19; (with_reducible refine (q19c _).mono ?_); rintro e w9 ⟨rfl, hb'⟩; have c10 := Below.next c10 hb'; clear hb')
    | (go_at_call 26; (with_reducible refine (q26 _ _ (by simp)).mono ?_); rintro e w10 ⟨rfl, hb'⟩; have c10 := Below.next c10 hb'; clear hb'; have c18 := RowKit.Below.refl (w10.alloc (.cells #[.string ⟨#[]⟩, .int .u32 0, .bool false] 24)).heap.size (w10.alloc (.cells #[.string ⟨#[]⟩, .int .u32 0, .bool false] 24)))
    | (go_at_call 24; (with_reducible refine (q24a _ _ (by simp)).mono ?_); rintro e w11 ⟨v', rfl, hr, hb'⟩; have c18 := Below.next c18 hb'; clear hb'; have hd := RowKit.Below.refl w11.heap.size w11; obtain ⟨adh, ch, rfl, hh1, hh2, hE⟩ := hr)
    | (go_at_call 16; (with_reducible refine (works_any _).mono ?_); rintro e w12 ⟨rfl, hb'⟩; have c18 := Below.next c18 hb'; have hd := Below.next hd hb'; clear hb')
    | (go_at_call 29; (with_reducible refine (g1 _).mono ?_); rintro e w13 ⟨rfl, hb'⟩; have c18 := Below.next c18 hb'; have hd := Below.next hd hb'; clear hb'; have c10' := Below.next c10 (below_lit c18); have c8' := Below.next c8 (below_lit c10'); obtain ⟨m0, m1, m2⟩ := box_kept c8'; obtain ⟨n0, n1, n2⟩ := box_kept c10'; obtain ⟨o0, o1, o2⟩ := box_kept c18; have hE13 := hE.below hd; obtain ⟨ad', ch', hv', hEx⟩ := id hE13; cases hv'; obtain ⟨bh, oh, rfl, hE0⟩ := hEx 0 (by decide); have hw0 := hE0.2.1; simp [ent] at hw0)
    | (go_at_call 22; have hE13b : Ents w13 (.slice (some ⟨bh, oh, none⟩) 1 ch) [⟨⟨#[122]⟩, 0, true⟩] := hE13; (with_reducible refine (q22 _ _ hE13b).mono ?_); rintro e w14 ⟨v', rfl, ho, hb'⟩; have c18 := Below.next c18 hb'; clear hb'; have hl := ents_of_owns ho; obtain ⟨adl, cl, hv2, _⟩ := hl; rw [show (liveT [⟨⟨#[122]⟩, 0, true⟩]).length = 0 from rfl] at hv2; subst hv2)
    | (go_at_call 29; (with_reducible refine (g2 _).mono ?_); rintro e w15 ⟨rfl, hb'⟩; have c18 := Below.next c18 hb'; clear hb')
    | (go_at_call 29; (with_reducible refine (g3 _).mono ?_); rintro e w16 ⟨rfl, hb'⟩; have c18 := Below.next c18 hb'; clear hb')
    | (go_at_call 29; (with_reducible refine (g4 _).mono ?_); rintro e w17 ⟨rfl, hb'⟩; have c18 := Below.next c18 hb'; clear hb')
    | (go_at_call 29; (with_reducible refine (g5 _).mono ?_); rintro e w18 ⟨rfl, hb'⟩; have c18 := Below.next c18 hb'; clear hb')
    | (go_at_call 29; (with_reducible refine (g6 _).mono ?_); rintro e w19 ⟨rfl, hb'⟩; have c18 := Below.next c18 hb'; clear hb')
    | (go_at_call 29; (with_reducible refine (g7 _).mono ?_); rintro e w20 ⟨rfl, hb'⟩; have c18 := Below.next c18 hb'; clear hb')
    | (go_at_call 24; (with_reducible refine (q24b _).mono ?_); rintro e w21 ⟨v', rfl, hr2, hb'⟩; have c18 := Below.next c18 hb'; clear hb'; obtain ⟨ad2, c2, rfl, _⟩ := hr2))
  go_ret
  exact ⟨rfl, Below.next (Below.next (Below.next hb (below_lit c8)) (below_lit c10)) (below_lit c18)⟩


theorem entryKnown_walk (w : World) : Calls Try.prog 7 #[] w fun e w' => e = .returned (.bool true) ∧ RowKit.Below w.heap.size w w' :=
  known_walk R255 A255 R255_size A255_size A255_six rep255 k_q8a k_q8b k_g1 k_g5 w
end Go.Proofs.Ytfnmmnbndfdpiaa
