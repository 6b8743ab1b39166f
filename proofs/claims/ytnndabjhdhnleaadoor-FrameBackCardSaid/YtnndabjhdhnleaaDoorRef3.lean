/-
  The walks of the document's answer for layer 3: Put, Get, All, Same.
-/
import Derived.Test.YtnndabjhdhnleaaDoorFAll
import Derived.Test.YtnndabjhdhnleaaDoorRef1
import Derived.Test.YtnndabjhdhnleaaDoorRef2
namespace Go.Proofs.YtnndabjhdhnleaaDoor
open Go.RowKit

set_option maxHeartbeats 400000 in
theorem refFput_any (p : ByteArray) (w : World) (hs : p.size ≤ 1000000) :
    Calls Tryd.prog 9 #[.string p] w fun e w' => e = .returned (.tuple #[.string (if fits p.size = true then frameOf p else ⟨#[]⟩), .int .i64 (if fits p.size = true then 0 else 4)]) ∧ Below w.heap.size w w' := by
  obtain ⟨b, hb⟩ : ∃ b, fits p.size = b := ⟨_, rfl⟩
  rw [hb]
  have hpm : p.size ≤ 9223372036854775807 := by omega
  cases b
  · have h1 := fits_false hb
    clear hb
    by_cases h0 : p.size = 0
    · have g1 : ((p.size : Int) == 0) = true := by rw [beq_iff_eq]; omega
      clear h1 h0
      go_enter Tryd.func9, Tryd.ntmps9
      go_wp2
      go_ret2
      exact ⟨rfl, Below.refl _ _⟩
    · have g1 : ((p.size : Int) == 0) = false := by rw [beq_eq_false_iff_ne]; omega
      have g2 : 300 < (p.size : Int) := by omega
      clear h1 h0
      go_enter Tryd.func9, Tryd.ntmps9
      go_wp2
      go_ret2
      exact ⟨rfl, Below.refl _ _⟩
  · obtain ⟨h1, h2⟩ := fits_true hb
    have g1 : ((p.size : Int) == 0) = false := by rw [beq_eq_false_iff_ne]; omega
    have g2 : ¬ 300 < (p.size : Int) := by omega
    obtain ⟨B, hB⟩ : ∃ B : ByteArray, B = ⟨(Plain.enc p.size).toArray⟩ := ⟨_, rfl⟩
    have hBl : B.data.toList = Plain.enc p.size := by rw [hB]
    have q23 : ∀ w0, Calls Tryd.prog 23 #[.int .u64 p.size] w0 fun e w' => e = .returned (.string B) ∧ Below w0.heap.size w0 w' := fun w0 => hB ▸ refPut_any p.size w0 (by omega)
    have hBs := enc_bytes_size (n := p.size) (by omega) B hBl
    have hcat : B.size + p.size ≤ 9223372036854775807 := by omega
    have q22 : ∀ w1, Calls Tryd.prog 22 #[.string (B ++ p)] w1 fun e w' => e = .returned (.string (frameOf p)) ∧ Below w1.heap.size w1 w' := fun w1 => by
      unfold frameOf headed
      rw [← hB]
      exact refSeal_any (B ++ p) w1 (by rw [ba_size_append]; omega)
    clear hb hB hBl h1 h2
    go_enter Tryd.func9, Tryd.ntmps9
    go_wp2_with (first
      | (go_at_call 23; go_must (refine (q23 _).mono ?_); rintro e w2 ⟨rfl, hb2⟩)
      | (go_at_call 22; go_must (refine (q22 _).mono ?_); rintro e w3 ⟨rfl, hb3⟩))
    go_ret2
    exact ⟨rfl, Below.next hb2 hb3⟩

set_option maxHeartbeats 1000000 in
theorem refFget_any (s : ByteArray) (a : Int) (w : World) (hsz : s.size ≤ 1000000) :
    Calls Tryd.prog 25 #[.string s, .int .i64 a] w fun e w' => e = .returned (fgotten (fget s a)) ∧ Below w.heap.size w w' := by
  have hsm : s.size ≤ 9223372036854775807 := by omega
  by_cases h1 : a < 0 ∨ (s.size : Int) < a
  · rw [fget_out h1]
    unfold fgotten
    by_cases h0 : a < 0
    · clear h1
      go_enter Tryd.func25, Tryd.ntmps25
      go_wp2
      go_ret3
      exact ⟨rfl, Below.refl _ _⟩
    · have h2 : (s.size : Int) < a := by omega
      clear h1
      go_enter Tryd.func25, Tryd.ntmps25
      go_wp2
      go_ret3
      exact ⟨rfl, Below.refl _ _⟩
  have g0 : ¬ a < 0 := by omega
  have g1 : ¬ (s.size : Int) < a := by omega
  by_cases h2 : a = (s.size : Int)
  · rw [fget_end h2]
    unfold fgotten
    have g2 : (a == (s.size : Int)) = true := by simpa using h2
    clear h1 h2
    go_enter Tryd.func25, Tryd.ntmps25
    go_wp2
    go_ret3
    exact ⟨rfl, Below.refl _ _⟩
  have g2 : (a == (s.size : Int)) = false := by simpa using h2
  have g2' : 0 ≤ a := by omega
  have g2'' : a < (s.size : Int) := by omega
  have q52 := fun w0 => refGet_any s a w0 (by unfold maxLen; omega)
  have hnum := fun r (hr : Plain.get s.data.toList a = r) he => fget_num g2' g2'' hr he
  have hlong := fun n f (hr : Plain.get s.data.toList a = (n, f, 0)) hn => fget_long g2' g2'' hr hn
  have hshort := fun n f (hr : Plain.get s.data.toList a = (n, f, 0)) hn hs => fget_short g2' g2'' hr hn hs
  have hsum := fun n f (hr : Plain.get s.data.toList a = (n, f, 0)) hn hs hb => fget_sum g2' g2'' hr hn hs hb
  have hok := fun n f (hr : Plain.get s.data.toList a = (n, f, 0)) hn hs hb => fget_ok g2' g2'' hr hn hs hb
  have hget := Plain.get_ok (s := s.data.toList) (p := a)
  obtain ⟨⟨n, f, e⟩, hr⟩ : ∃ r, Plain.get s.data.toList a = r := ⟨_, rfl⟩
  unfold gotten at q52
  rw [hr] at q52 hget
  dsimp only at q52 hget
  clear h1 h2
  by_cases he : e = 0
  · subst he
    obtain ⟨k, u, hk, hn, hu, hku, _, hn64⟩ := hget rfl
    rw [ba_length] at hku
    subst hk
    obtain ⟨F, hF⟩ : ∃ F : Nat, k + u = F := ⟨_, rfl⟩
    rw [hF] at hn hku
    subst hn
    by_cases hf : fits n = true
    · obtain ⟨m1, m2⟩ := fits_true hf
      have i1 : ((n : Int) == 0) = false := by simp; omega
      have i2 : ¬ 300 < (n : Int) := by omega
      by_cases hs : s.size < F + n + 4
      · have HR := Lib.hid (hshort n F hr hf (by rw [Int.toNat_natCast]; exact hs))
        have i3 : (s.size : Int) < (F : Int) + (n : Int) + 4 := by omega
        clear hnum hlong hshort hsum hok hget hr hs hf hF
        go_enter Tryd.func25, Tryd.ntmps25
        go_wp2_with (go_at_call 52; go_must (refine (q52 _).mono ?_); rintro e w1 ⟨rfl, hb1⟩)
        go_ret3
        exact ⟨by rw [HR.out]; rfl, hb1⟩
      · have i3 : ¬ (s.size : Int) < (F : Int) + (n : Int) + 4 := by omega
        have hx : isSeal (s.extract k (F + n + 4)) = true ∨ isSeal (s.extract k (F + n + 4)) = false := by cases isSeal (s.extract k (F + n + 4)) <;> simp
        have hS := hsum n F hr hf (by rw [Int.toNat_natCast]; exact hs)
        have hO := hok n F hr hf (by rw [Int.toNat_natCast]; exact hs)
        rw [Int.toNat_natCast, Int.toNat_natCast] at hS hO
        have i4 : (k : Int) ≤ (F : Int) + (n : Int) + 4 := by omega
        have i5 : (F : Int) + (n : Int) + 4 ≤ (s.size : Int) := by omega
        have i6 : 0 ≤ (F : Int) + (n : Int) + 4 := by omega
        have i7 : (F : Int) ≤ (F : Int) + (n : Int) := by omega
        have i8 : (F : Int) + (n : Int) ≤ (s.size : Int) := by omega
        have e0 : ((F : Int) + (n : Int) + 4).toNat = F + n + 4 := by omega
        have e1 : (F : Int) + (n : Int) + 4 - 4 = (F : Int) + (n : Int) := by omega
        have e2 : ((F : Int) + (n : Int)).toNat = F + n := by omega
        obtain ⟨B, hB⟩ : ∃ B, s.extract k (F + n + 4) = B := ⟨_, rfl⟩
        obtain ⟨P, hP⟩ : ∃ P, s.extract F (F + n) = P := ⟨_, rfl⟩
        rw [hB] at hS hO hx
        rw [hP] at hO
        have q53 := fun w0 => refOpen_any B w0 (by rw [← hB, ByteArray.size_extract]; omega)
        obtain ⟨O, hOp⟩ : ∃ O, opened B = O := ⟨_, rfl⟩
        rw [hOp] at q53
        obtain ⟨b, hb⟩ : ∃ b, isSeal B = b := ⟨_, rfl⟩
        rw [hb] at q53 hx hS hO
        have HS := Lib.hid hS
        have HO := Lib.hid hO
        clear hnum hlong hshort hsum hok hget hr hs hf hF hS hO hOp hb hx
        cases b
        · go_enter Tryd.func25, Tryd.ntmps25
          go_wp2_with (first
            | (go_at_call 52; go_must (refine (q52 _).mono ?_); rintro e w1 ⟨rfl, hb1⟩)
            | (go_at_call 53; go_must (refine (q53 _).mono ?_); rintro e w2 ⟨rfl, hb2⟩))
          go_ret3
          exact ⟨by rw [HS.out trivial]; rfl, Below.next hb1 hb2⟩
        · go_enter Tryd.func25, Tryd.ntmps25
          go_wp2_with (first
            | (go_at_call 52; go_must (refine (q52 _).mono ?_); rintro e w1 ⟨rfl, hb1⟩)
            | (go_at_call 53; go_must (refine (q53 _).mono ?_); rintro e w2 ⟨rfl, hb2⟩))
          go_ret3
          exact ⟨by rw [HO.out trivial]; rfl, Below.next hb1 hb2⟩
    · have hf' : fits n = false := by simpa using hf
      have m1 := fits_false hf'
      have HR := Lib.hid (hlong n F hr hf')
      clear hnum hlong hshort hsum hok hget hr hf hf' hF
      by_cases h0 : n = 0
      · have i1 : ((n : Int) == 0) = true := by simp; omega
        clear m1 h0
        go_enter Tryd.func25, Tryd.ntmps25
        go_wp2_with (go_at_call 52; go_must (refine (q52 _).mono ?_); rintro e w1 ⟨rfl, hb1⟩)
        go_ret3
        exact ⟨by rw [HR.out]; rfl, hb1⟩
      · have i1 : ((n : Int) == 0) = false := by simp; omega
        have i2 : 300 < (n : Int) := by omega
        clear m1 h0
        go_enter Tryd.func25, Tryd.ntmps25
        go_wp2_with (go_at_call 52; go_must (refine (q52 _).mono ?_); rintro e w1 ⟨rfl, hb1⟩)
        go_ret3
        exact ⟨by rw [HR.out]; rfl, hb1⟩
  · have HR := Lib.hid (hnum _ hr he)
    have he' : ((e : Int) != 0) = true := by simp; omega
    clear hnum hlong hshort hsum hok hget hr he
    go_enter Tryd.func25, Tryd.ntmps25
    go_wp2_with (go_at_call 52; go_must (refine (q52 _).mono ?_); rintro e w1 ⟨rfl, hb1⟩)
    go_ret3
    exact ⟨by rw [HR.out]; rfl, hb1⟩

set_option maxHeartbeats 2000000 in
theorem refFall_any (s : ByteArray) (w : World) (hs : s.size ≤ 1000000) : Calls Tryd.prog 26 #[.string s] w (AllAns w (fall s)) := by
  have q25 := fun p w0 => refFget_any s p w0 hs
  obtain ⟨i0, hi, hz0, hz1, hz2⟩ := info_parts i9
  obtain ⟨R, hR⟩ : ∃ R, R = fall s := ⟨_, rfl⟩
  have HR := Lib.hid hR
  rw [← hR]
  clear hR
  go_enter Tryd.func26, Tryd.ntmps26
  go_wp2
  go_loopw [5, 6] (fun v x wr => ∃ (acc : List ByteArray) (p : Int) (fuel : Nat), x = .int .i64 p ∧ (acc.length : Int) ≤ p ∧ p ≤ s.size ∧ (s.size : Int) < p + fuel ∧ wr.ownsRow w.heap.size 9 1 v acc.length (strs acc) ∧ fallFrom s fuel acc p = R ∧ Below w.heap.size w wr) (fun _ x _ => s.size + 1 - (intOf x).toNat)
  case atStart => exact ⟨[], 0, s.size + 1, rfl, by simp, by omega, by simp; omega, by simpa [strs] using World.ownsRow_nil w w.heap.size 9 1, by rw [HR.out]; rfl, Below.refl _ _⟩
  case round =>
    obtain ⟨acc, p, fuel, rfl, hlen, hps, hfuel, hown, hrow, hb⟩ := hrel
    have g25 := q25 p
    unfold fgotten at g25
    have hbad := fget_bad (s := s) (a := p)
    have hst := fget_stands (s := s) (a := p)
    obtain ⟨f', rfl⟩ : ∃ f', fuel = f' + 1 := ⟨fuel - 1, by omega⟩
    have hok := fallFrom_ok (s := s) (k := f') (acc := acc) (a := p)
    have hno := fallFrom_bad (s := s) (k := f') (acc := acc) (a := p)
    obtain ⟨r, hr⟩ : ∃ r, fget s p = r := ⟨_, rfl⟩
    rw [hr] at g25 hbad hst hok hno
    obtain ⟨P0, p0, e0⟩ := r
    dsimp only at g25 hbad hst hok hno
    obtain ⟨n, hn⟩ : ∃ n, n = acc.length := ⟨_, rfl⟩
    have hown0 := hown
    rw [← hn] at hown hlen
    clear hr q25
    by_cases he : e0 = 0
    · subst he
      obtain ⟨j1, j2, j3, _⟩ := stands_next (hst rfl)
      rw [hok rfl] at hrow
      have HROW := Lib.hid hrow
      have HN := Lib.hid hn
      have g25' : ∀ w0, Calls Tryd.prog 25 #[.string s, .int .i64 p] w0 fun e w' => e = .returned (.tuple #[.string P0, .int .i64 p0, .int .i64 0]) ∧ Below w0.heap.size w0 w' := g25
      clear hrow hok hno hst hbad g25 hn hown0
      go_wp2_with (first
        | (go_at_call 25; go_must (with_reducible refine (g25' _).mono ?_); rintro e w1 ⟨rfl, hb1⟩; replace hown := hown.kept (grown_of_below hb1) (by cases Value.ownBlock _ <;> simp); replace hb := Below.next hb hb1; clear hb1)
        | (at_builtin; refine wpList_append_own _ rfl _ _ 22 rfl w.heap.size 9 i0 (.string ⟨#[]⟩) 1 16 Tryd.underlying22 hi hz0 hz1 hz2 rfl (by decide) _ _ _ rfl (hown.alloc _) ⟨w1.heap.size, 0, none⟩ 1 1 [.string P0] rfl rfl ?c1 ?c2 ?c3 ?c4 ?c5 ?_))
      case c1 =>
        intro j u hj
        cases j with
        | zero => simp at hj; subst hj; simp [go_sem, Addr.add]
        | succ j => simp at hj
      case c2 => intro u hu; simp at hu; subst hu; rfl
      case c3 => unfold maxLen; omega
      case c4 => omega
      case c5 => have := hb.size; simp; omega
      intro v' w2 hown2 hgrow _
      have hb2 : Below w.heap.size w w2 := (hb.alloc hb.size _).grown hgrow (by have := hb.size; simp; omega) (fun k hk => (hown.lt k hk).1)
      go_wp2
      refine ⟨⟨acc ++ [P0], p0, f', rfl, ?_, j3, by omega, ?_, HROW.out, hb2⟩, by simp [intOf]; omega⟩
      · rw [List.length_append, ← HN.out]; simp; omega
      · rw [List.length_append, ← HN.out]; simpa [strs] using hown2
    · have hrow' := hno he
      rw [hrow] at hrow'
      obtain ⟨rfl, rfl⟩ := hbad he
      have he3 : ((e0 : Int) != 0) = true := by simp; omega
      have HROW := Lib.hid hrow'
      have HN := Lib.hid hn
      clear hrow hok hno hst hbad hn hrow'
      by_cases h9 : e0 = 9
      · subst h9
        have g25' : ∀ w0, Calls Tryd.prog 25 #[.string s, .int .i64 p0] w0 fun e w' => e = .returned (.tuple #[.string ⟨#[]⟩, .int .i64 p0, .int .i64 9]) ∧ Below w0.heap.size w0 w' := g25
        clear g25 he he3
        go_wp2_with (go_at_call 25; go_must (with_reducible refine (g25' _).mono ?_); rintro e w1 ⟨rfl, hb1⟩; replace hown0 := hown0.kept (grown_of_below hb1) (by cases Value.ownBlock _ <;> simp); replace hb := Below.next hb hb1; clear hb1)
        go_ret3
        have hn := strs_of_owns hown0
        exact ⟨_, by rw [HROW.out]; rfl, by rw [HROW.out]; exact hn, hb⟩
      · have he9 : ((e0 : Int) == 9) = false := by simp; omega
        go_wp2_with (go_at_call 25; go_must (with_reducible refine (g25 _).mono ?_); rintro e w1 ⟨rfl, hb1⟩; replace hown0 := hown0.kept (grown_of_below hb1) (by cases Value.ownBlock _ <;> simp); replace hb := Below.next hb hb1; clear hb1)
        go_ret3
        have hn := strs_of_owns hown0
        exact ⟨_, by rw [HROW.out, if_neg h9]; rfl, by rw [HROW.out]; exact hn, hb⟩

set_option maxHeartbeats 1000000 in
theorem sameS_any (l : List ByteArray) (v1 v2 : Value) (w : World) (hlen : l.length ≤ 1000000000) (h1 : Strs w v1 l) (h2 : Strs w v2 l) :
    Calls Tryd.prog 15 #[v1, v2] w fun e w' => e = .returned (.bool true) ∧ Below w.heap.size w w' := by
  obtain ⟨a1, c1, rfl, k1⟩ := h1
  obtain ⟨a2, c2, rfl, k2⟩ := h2
  go_enter Tryd.func15, Tryd.ntmps15
  go_wp2
  go_loopw [5] (fun i wr => ∃ k : Nat, k ≤ l.length ∧ i = .int .i64 k ∧ Below w.heap.size w wr) (fun i _ => l.length - (intOf i).toNat)
  case atStart => exact ⟨0, Nat.zero_le _, rfl, Below.refl _ _⟩
  case round =>
    obtain ⟨k, hk, rfl, hb⟩ := hrel
    by_cases hlt : k < l.length
    · obtain ⟨b1, o1, rfl, e1⟩ := k1 k hlt
      obtain ⟨b2, o2, rfl, e2⟩ := k2 k hlt
      have f1 : wr.cell? ⟨b1, o1 + k, none⟩ = some (.string (l.getD k ⟨#[]⟩)) := by rw [hb.cell (p := ⟨b1, o1 + k, none⟩) (block_lt_of_cell e1)]; exact e1
      have f2 : wr.cell? ⟨b2, o2 + k, none⟩ = some (.string (l.getD k ⟨#[]⟩)) := by rw [hb.cell (p := ⟨b2, o2 + k, none⟩) (block_lt_of_cell e2)]; exact e2
      obtain ⟨x, hx⟩ : ∃ x, x = l.getD k ⟨#[]⟩ := ⟨_, rfl⟩
      rw [← hx] at f1 f2
      clear e1 e2 hx
      go_wp2
      go_quiet (fail)
      have hb2 : Below w.heap.size w (wr.drewN nq) := hb.trans ⟨rfl, rfl, rfl, Nat.le_refl _, fun _ _ => rfl⟩
      go_wp2
      exact ⟨⟨k + 1, by omega, by go_num, hb2⟩, by simp [intOf]; omega⟩
    · go_wp2
      go_ret
      exact ⟨rfl, hb⟩
end Go.Proofs.YtnndabjhdhnleaaDoor
