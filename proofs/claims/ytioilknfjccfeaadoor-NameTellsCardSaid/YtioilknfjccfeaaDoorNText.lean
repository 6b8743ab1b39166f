/-
  The law's text of a piece: some text, of few bytes.
-/
import Derived.Test.YtioilknfjccfeaaDoorNPieces
import Derived.Deep.DeepCutAuto
import Derived.Deep.CutRange
import Derived.Deep.CutBlock
namespace Go.Proofs.YtioilknfjccfeaaDoor
open Go.RowKit Go.Sort

def headsL : List ByteArray := [⟨#[]⟩, ⟨#[119, 97, 108, 45]⟩, ⟨#[115, 101, 103, 45]⟩, ⟨#[109, 97, 110, 105, 102, 101, 115, 116]⟩, ⟨#[109, 97, 110, 105, 102, 101, 115, 116, 46, 116, 109, 112]⟩, ⟨#[119, 97, 108]⟩, ⟨#[115, 101, 103, 45, 48]⟩, ⟨#[119, 97, 108, 45, 43]⟩, ⟨#[87, 97, 108, 45]⟩, ⟨#[109, 97, 110, 105, 102, 101, 115, 116, 46]⟩]
theorem heads_size (j : Nat) (h : j < 10) : (headsL.getD j ⟨#[]⟩).size ≤ 12 := by
  have : ∀ i : Fin 10, (headsL.getD i.1 ⟨#[]⟩).size ≤ 12 := by decide
  exact this ⟨j, h⟩

set_option maxHeartbeats 1000000 in
set_option maxRecDepth 100000 in
theorem text_any (h n : Nat) (t : ByteArray) (hh : h < 256) (hn : n < 4294967296) (ht : t.size ≤ 9223372036854775807) (w : World) :
    Calls Tryd.prog 7 #[.agg #[.int .u8 (h : Int), .int .u32 (n : Int), .string t]] w fun e w' => (∃ T, e = .returned (.string T) ∧ T.size ≤ 60) ∧ Below w.heap.size w w' := by
  have hp0 : PieceAt (w.alloc (.cells #[.int .u8 (h : Int), .int .u32 (n : Int), .string t] 26)) w.heap.size 0 ⟨h, n, t⟩ := by
    refine ⟨?_, ?_, ?_⟩
    · rw [World.cell?_alloc_at (hn := rfl)]; rfl
    · rw [World.cell?_alloc_at (hn := rfl)]; rfl
    · rw [World.cell?_alloc_at (hn := rfl)]; rfl
  have hb1 : Below w.heap.size w (w.alloc (.cells #[.int .u8 (h : Int), .int .u32 (n : Int), .string t] 26)) := below_alloc' (Below.refl _ w)
  have hz : (w.alloc (.cells #[.int .u8 (h : Int), .int .u32 (n : Int), .string t] 26)).heap.size = w.heap.size + 1 := by simp
  have hb2 : Below (w.alloc (.cells #[.int .u8 (h : Int), .int .u32 (n : Int), .string t] 26)).heap.size (w.alloc (.cells #[.int .u8 (h : Int), .int .u32 (n : Int), .string t] 26)) ((w.alloc (.cells #[.int .u8 (h : Int), .int .u32 (n : Int), .string t] 26)).alloc (.cells (strs headsL).toArray 9)) := below_alloc' (Below.refl _ _)
  have hp2 := hp0.below hb2 (by omega)
  have hs2 := strs_new (w.alloc (.cells #[.int .u8 (h : Int), .int .u32 (n : Int), .string t] 26)) headsL 10 10 9 rfl
  have hb := Below.next hb1 hb2
  rw [hz] at hs2
  have hH : ∀ j, j < 10 → ((w.alloc (.cells #[.int .u8 (h : Int), .int .u32 (n : Int), .string t] 26)).alloc (.cells (strs headsL).toArray 9)).cell? ⟨w.heap.size + 1, j, none⟩ = some (.string (headsL.getD j ⟨#[]⟩)) := fun j hj => by
    obtain ⟨ad, c, hv, hc⟩ := hs2
    cases hv
    obtain ⟨b, o, he, hcell⟩ := hc j hj
    cases he
    rw [Nat.zero_add] at hcell
    exact hcell
  have hlt2 : w.heap.size < ((w.alloc (.cells #[.int .u8 (h : Int), .int .u32 (n : Int), .string t] 26)).alloc (.cells (strs headsL).toArray 9)).heap.size := by simp; omega
  rw [show (strs headsL).toArray = #[.string ⟨#[]⟩, .string ⟨#[119, 97, 108, 45]⟩, .string ⟨#[115, 101, 103, 45]⟩, .string ⟨#[109, 97, 110, 105, 102, 101, 115, 116]⟩, .string ⟨#[109, 97, 110, 105, 102, 101, 115, 116, 46, 116, 109, 112]⟩, .string ⟨#[119, 97, 108]⟩, .string ⟨#[115, 101, 103, 45, 48]⟩, .string ⟨#[119, 97, 108, 45, 43]⟩, .string ⟨#[87, 97, 108, 45]⟩, .string ⟨#[109, 97, 110, 105, 102, 101, 115, 116, 46]⟩] from rfl] at hp2 hb hH hlt2
  have HX := Lib.hid (And.intro hp2 (And.intro hb (And.intro hH hlt2)))
  clear hp0 hb1 hz hb2 hp2 hs2 hb hH hlt2
  have hm : (h : Int).tmod 10 = ((h % 10 : Nat) : Int) := by rw [Int.tmod_eq_emod_of_nonneg (by omega)]; omega
  have hm2 : (h : Int) % 10 = ((h % 10 : Nat) : Int) := by omega
  obtain ⟨j, hj⟩ : ∃ j, h % 10 = j := ⟨_, rfl⟩
  have hj10 : j < 10 := by omega
  rw [hj] at hm hm2
  have hm3 : (h : Int).tmod 3 = ((h % 3 : Nat) : Int) := by rw [Int.tmod_eq_emod_of_nonneg (by omega)]; omega
  have hm4 : (h : Int) % 3 = ((h % 3 : Nat) : Int) := by omega
  have hm5 : (h : Int).tmod 2 = ((h % 2 : Nat) : Int) := by rw [Int.tmod_eq_emod_of_nonneg (by omega)]; omega
  have hm6 : (h : Int) % 2 = ((h % 2 : Nat) : Int) := by omega
  obtain ⟨h3, hh3⟩ : ∃ h3, h % 3 = h3 := ⟨_, rfl⟩
  obtain ⟨h2, hh2⟩ : ∃ h2, h % 2 = h2 := ⟨_, rfl⟩
  rw [hh3] at hm3 hm4
  rw [hh2] at hm5 hm6
  have Q8 := Lib.hid (fun W => refMake_any 3 (n : Int) W)
  have hQz := Plain.make_size_any 3 (n : Int)
  obtain ⟨MK, hMK⟩ : ∃ MK, Plain.makeT 3 (n : Int) = MK := ⟨_, rfl⟩
  rw [hMK] at Q8 hQz
  clear hj hh3 hh2 hMK
  go_enter Tryd.func7, Tryd.ntmps7
  go_upto_region 2 with fail
  generalize hW2 : (w.alloc (.cells #[.int .u8 (h : Int), .int .u32 (n : Int), .string t] 26)).alloc (.cells #[.string ⟨#[]⟩, .string ⟨#[119, 97, 108, 45]⟩, .string ⟨#[115, 101, 103, 45]⟩, .string ⟨#[109, 97, 110, 105, 102, 101, 115, 116]⟩, .string ⟨#[109, 97, 110, 105, 102, 101, 115, 116, 46, 116, 109, 112]⟩, .string ⟨#[119, 97, 108]⟩, .string ⟨#[115, 101, 103, 45, 48]⟩, .string ⟨#[119, 97, 108, 45, 43]⟩, .string ⟨#[87, 97, 108, 45]⟩, .string ⟨#[109, 97, 110, 105, 102, 101, 115, 116, 46]⟩] 9) = w2 at HX ⊢
  clear hW2
  obtain ⟨hp2, hb, hH, hlt2⟩ := HX.out
  have HB := Lib.hid hb
  have HP := Lib.hid (fun W (hW : Below w2.heap.size w2 W) => hp2.below hW hlt2)
  obtain ⟨c0, c1, c2⟩ := hp2
  simp only [Nat.zero_add] at c0 c1 c2
  have ch := hH j hj10
  have hsz := heads_size j hj10
  obtain ⟨S, hS⟩ : ∃ S, headsL.getD j ⟨#[]⟩ = S := ⟨_, rfl⟩
  rw [hS] at ch hsz
  have hj0 : (j : Int) < 10 := by omega
  obtain ⟨bx, hbx⟩ : ∃ bx, w.heap.size = bx := ⟨_, rfl⟩
  rw [hbx] at c0 c1 c2 ch HP hlt2 ⊢
  clear hH hS HX hb
  go_upto_if 18 with fail
  have Q8' := Lib.hid (Q8.out w2)
  go_cut [4] from 18 to 38 (fun s4 wx => ∃ T : ByteArray, s4 = .string T ∧ T.size ≤ 26 ∧ Below w2.heap.size w2 wx)
  case first =>
    by_cases h0 : 0 < h3
    · have e18 : decide ((0 : Int) < (h3 : Int)) = true := decide_eq_true (by omega)
      have e18' : decide (0 < h3) = true := decide_eq_true h0
      have hcat : S.size + MK.size ≤ 9223372036854775807 := by omega
      have hcz : (S ++ MK).size ≤ 26 := by rw [ba_size_append]; omega
      obtain ⟨D, hD⟩ : ∃ D, S ++ MK = D := ⟨_, rfl⟩
      rw [hD] at hcz
      by_cases h4 : 4 < D.size
      · have e27 : decide ((4 : Int) < (D.size : Int)) = true := decide_eq_true (by omega)
        have h4' : (4 : Int) < (D.size : Int) := by omega
        by_cases hev : h2 = 0
        · have e32 : ((h2 : Int) == 0) = true := by simp [hev]
          obtain ⟨dm, hdm⟩ : ∃ dm, D.size = dm + 1 := ⟨D.size - 1, by omega⟩
          have hdm1 : (D.size : Int) - 1 = (dm : Int) := by omega
          have hdm2 : (dm : Int) ≤ (D.size : Int) := by omega
          have hdm3 : dm ≤ D.size := by omega
          have hcut : (D.extract 0 dm).size ≤ 26 := by rw [ByteArray.size_extract]; omega
          have HCUT := Lib.hid hcut
          clear hdm hev hcut
          go_wp2_with (go_at_call 8; (with_reducible refine Q8'.out.mono ?_); rintro e w3 ⟨rfl, hb3⟩; have HB3 := Lib.hid hb3; obtain ⟨d0, d1, d2⟩ := HP.out _ hb3; simp only [Nat.zero_add] at d0 d1 d2; clear hb3)
          go_meet
          exact ⟨_, rfl, HCUT.out, HB3.out⟩
        · have e32 : ((h2 : Int) == 0) = false := by simp; omega
          have HCUT := Lib.hid hcz
          go_wp2_with (go_at_call 8; (with_reducible refine Q8'.out.mono ?_); rintro e w3 ⟨rfl, hb3⟩; have HB3 := Lib.hid hb3; obtain ⟨d0, d1, d2⟩ := HP.out _ hb3; simp only [Nat.zero_add] at d0 d1 d2; clear hb3)
          go_meet
          exact ⟨_, rfl, HCUT.out, HB3.out⟩
      · have e27 : decide ((4 : Int) < (D.size : Int)) = false := decide_eq_false (by omega)
        have h4' : ¬ (4 : Int) < (D.size : Int) := by omega
        have HCUT := Lib.hid hcz
        go_wp2_with (go_at_call 8; (with_reducible refine Q8'.out.mono ?_); rintro e w3 ⟨rfl, hb3⟩; have HB3 := Lib.hid hb3; obtain ⟨d0, d1, d2⟩ := HP.out _ hb3; simp only [Nat.zero_add] at d0 d1 d2; clear hb3)
        go_meet
        exact ⟨_, rfl, HCUT.out, HB3.out⟩
    · have e18 : decide ((0 : Int) < (h3 : Int)) = false := decide_eq_false (by omega)
      have e18' : decide (0 < h3) = false := decide_eq_false h0
      have HSZ := Lib.hid hsz
      go_wp2_with fail
      go_meet
      exact ⟨_, rfl, by have := HSZ.out; omega, Below.refl _ _⟩
  case rest =>
  obtain ⟨T, rfl, hT, hbx2⟩ := hcut
  have HBX := Lib.hid hbx2
  obtain ⟨d0, d1, d2⟩ := HP.out _ hbx2
  simp only [Nat.zero_add] at d0 d1 d2
  obtain ⟨kp, hkp, m1, m3, m4⟩ := cut_any t 12
  have m1 : min (t.size : Int) 12 = (kp : Int) := m1
  have m2 : (kp : Int) ≤ (t.size : Int) := by omega
  have hxz : (t.extract 0 kp).size ≤ 12 := by rw [ByteArray.size_extract]; omega
  have hcat : T.size + (t.extract 0 kp).size ≤ 9223372036854775807 := by omega
  have HRES : Hid ((T ++ t.extract 0 kp).size ≤ 60) := Lib.hid (by rw [ba_size_append]; omega)
  clear hkp hbx2 c0 c1 c2 ch
  go_wp2
  go_ret
  exact ⟨⟨_, rfl, HRES.out⟩, Below.next HB.out HBX.out⟩
end Go.Proofs.YtioilknfjccfeaaDoor
