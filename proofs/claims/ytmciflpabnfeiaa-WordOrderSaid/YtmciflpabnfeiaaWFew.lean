/-
  The statements' few: thirty rows at most, of three hundred bytes each.
-/
import Derived.Test.YtmciflpabnfeiaaWAppend
namespace Go.Proofs.Ytmciflpabnfeiaa
open Go.RowKit

/-- A row, cut. -/
def cut300 (s : ByteArray) : ByteArray := s.extract 0 (min s.size 300)
/-- Some rows, cut. -/
def fewT (l : List ByteArray) : List ByteArray := (l.take 30).map cut300

theorem cut300_size (s : ByteArray) : (cut300 s).size ≤ 300 := by unfold cut300; rw [ByteArray.size_extract]; omega
theorem fewT_length (l : List ByteArray) : (fewT l).length ≤ 30 := by unfold fewT; rw [List.length_map, List.length_take]; omega
theorem fewT_size (l : List ByteArray) : ∀ s ∈ fewT l, s.size ≤ 300 := by
  intro s hs
  unfold fewT at hs
  obtain ⟨y, _, rfl⟩ := List.mem_map.1 hs
  exact cut300_size y
theorem fewT_short (l : List ByteArray) : Short (fewT l) := fun s hs => by have := fewT_size l s hs; omega

theorem few_snoc (l : List ByteArray) (k : Nat) (h : k < l.length) (h30 : k < 30) : fewT (l.take (k + 1)) = fewT (l.take k) ++ [cut300 (at' l k)] := by
  unfold fewT
  rw [List.take_of_length_le (l := l.take (k + 1)) (by rw [List.length_take]; omega), List.take_of_length_le (l := l.take k) (by rw [List.length_take]; omega), List.take_succ_eq_append_getElem h, List.map_append, at_lt h]
  rfl

theorem few_all (l : List ByteArray) (k : Nat) (h : k = l.length ∨ k = 30) : fewT (l.take k) = fewT l := by
  rcases h with rfl | rfl
  · rw [List.take_length]
  · unfold fewT
    rw [List.take_take]
    rfl

set_option maxHeartbeats 1600000 in
theorem few_any (l : List ByteArray) (v : Value) (w : World) (hv : Strs w v l) (hl : Short l) (_hlen : l.length ≤ 9223372036854775807) :
    Calls Try.prog 7 #[v] w fun e w' => ∃ v', e = .returned v' ∧ RowS w' v' (fewT l) ∧ Below w.heap.size w w' := by
  obtain ⟨ad, c, rfl, hc⟩ := strs_cell hv
  go_enter Try.func7, Try.ntmps7
  go_wp2
  go_loopw [3, 4] (fun v3 i wr => ∃ (k : Nat) (A : List ByteArray), k ≤ l.length ∧ k ≤ 30 ∧ i = .int .i64 k ∧ A = fewT (l.take k) ∧ wr.ownsRow w.heap.size 9 1 v3 A.length (strs A) ∧ Below w.heap.size w wr) (fun _ i _ => l.length - (intOf i).toNat)
  case atStart => exact ⟨0, [], Nat.zero_le _, by omega, rfl, rfl, by simpa [strs] using World.ownsRow_nil w w.heap.size 9 1, Below.refl _ _⟩
  case round =>
    obtain ⟨k, A, hk, h30, rfl, hA, hown, hb⟩ := hrel
    have hAl : A.length ≤ 30 := by rw [hA]; exact fewT_length _
    by_cases hlt : k < l.length ∧ k < 30
    · obtain ⟨hlt, hlt30⟩ := hlt
      obtain ⟨b, o, rfl, hcell⟩ := hc k hlt
      have hcell' := (hb.cell (p := ⟨b, o + k, none⟩) (block_lt_of_cell hcell)).trans hcell
      have hnext := few_snoc l k hlt hlt30
      have hxz := short_at hl k
      obtain ⟨x, hx⟩ : ∃ x, x = at' l k := ⟨_, rfl⟩
      rw [← hx] at hcell' hnext hxz
      rw [← hA] at hnext
      unfold cut300 at hnext
      obtain ⟨kp, hkp⟩ : ∃ kp : Nat, kp = min x.size 300 := ⟨_, rfl⟩
      have m1 : (if (300 : Int) < (x.size : Int) then (300 : Int) else (x.size : Int)) = (kp : Int) := by split <;> omega
      have m2 : (kp : Int) ≤ (x.size : Int) := by omega
      rw [← hkp] at hnext
      obtain ⟨P, hP⟩ : ∃ P, x.extract 0 kp = P := ⟨_, rfl⟩
      rw [hP] at hnext
      have HN := Lib.hid hnext
      clear hkp hx hnext hcell hc hl hA hv
      go_wp2
      go_region_law (first | (refine step_append_strs (w0 := w) rfl (.tmp 15) (.tmp 27) rfl rfl u3 (.slice (some ⟨_, 0, none⟩) 1 1) A [P] rfl rfl (below_drew' (below_alloc' hb)) (World.ownsRow.alloc hown _) (by first | (with_reducible exact strs_drew' (strs_one rfl)) | (with_reducible exact strs_one rfl)) (by simp; omega) ?_; intro v1 w1 o1 g1 b1))
      all_goals go_wp2
      all_goals exact ⟨⟨k + 1, A ++ [P], by omega, by omega, by go_num, HN.out.symm, o1, b1⟩, by simp [intOf]; omega⟩
    · have hke : k = l.length ∨ k = 30 := by omega
      have hf := few_all l k hke
      rw [← hA] at hf
      have HF := Lib.hid hf
      clear hf hA hc
      rcases hke with hke | hke
      · have hnl : ¬ k < l.length := by omega
        clear hke
        go_wp2
        go_ret
        exact ⟨_, rfl, by rw [← HF.out]; exact rowS_owns hown, hb⟩
      · have hn30 : ¬ k < 30 := by omega
        by_cases hkl : k < l.length
        · clear hke
          go_wp2
          go_ret
          exact ⟨_, rfl, by rw [← HF.out]; exact rowS_owns hown, hb⟩
        · clear hke
          go_wp2
          go_ret
          exact ⟨_, rfl, by rw [← HF.out]; exact rowS_owns hown, hb⟩
end Go.Proofs.Ytmciflpabnfeiaa
