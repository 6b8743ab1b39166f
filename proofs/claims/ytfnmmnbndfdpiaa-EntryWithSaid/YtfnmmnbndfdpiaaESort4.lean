/-
  The library's stable sort at elements of k cells, whole: the row stands sorted, and what bears one key stands as it stood.
-/
import Derived.Test.YtfnmmnbndfdpiaaESort3
namespace Go.Proofs.Ytfnmmnbndfdpiaa
open Go.RowKit Go.Sort Go.Lib Go.Shelf

section
variable {P : Program} {α : Type} [Inhabited α] {κ : Type} [DecidableEq κ]

theorem merged_grow {key : α → κ} {n a b : Nat} {d dj d2 : Array α} (h : Merged key 0 n d dj) (k : Merged key a b dj d2) (hb : b ≤ n) : Merged key 0 n d d2 := h.trans (k.mono (Nat.zero_le _) hb)

set_option maxHeartbeats 8000000 in
set_option maxRecDepth 1000000 in
theorem stable_any {k : Nat} (L : SortP P k) (enc : α → List Value) (cf : α → α → Int) (hO : SWO (ltOf cf)) (key : α → κ) (hkey : ∀ x y, ltOf cf x y = true → key x ≠ key y) (g : Nat) (cb : Array Value) (eg : ∀ args w, (callFunc g args).run P w = .ok (.enter g args) w) (blk off cap : Nat) (d0 d : Array α) (w0 w : World)
    (hcmp : CmpLays P g cb enc k cf blk off d0.size w0) (R : RowK enc k w0 blk off d0) (hs : d0.size = d.size) (S : SWK enc k w0 blk off d w) (hsz : d0.size < 2305843009213693952)
    (e78 : ∀ args w, (callFunc 78 args).run P w = .ok (.enter 78 args) w)
    (ins : ∀ (a b : Nat) (d : Array α) (w : World), a ≤ b → b ≤ d.size → d0.size = d.size → SWK enc k w0 blk off d w →
      Calls P 78 #[.slice (some ⟨blk, off, none⟩) d.size cap, .int .i64 a, .int .i64 b, .func (.func g) #[] cb] w (MergeEnd cf key enc k w0 blk off a b d)) :
    Calls P 75 #[.slice (some ⟨blk, off, none⟩) d.size cap, .int .i64 (d.size : Nat), .func (.func g) #[] cb] w (MergeEnd cf key enc k w0 blk off 0 d.size d) := by
  have mixed := L.mixed; have t3 := L.t3; have a3 := L.a3; have z3 := L.z3; have v3 := L.v3; have t4 := L.t4; have a4 := L.a4; have z4 := L.z4; have v4 := L.v4; have t37 := L.t37; have a37 := L.a37; have z37 := L.z37; have v37 := L.v37; have a96 := L.a96; have z96 := L.z96
  have u37 := run_underlying L.t37
  have u3 := run_underlying L.t3
  have e79 : ∀ args w, (callFunc 79 args).run P w = .ok (.enter 79 args) w := enters_of L.f79 (by kernel_rfl) rfl
  obtain ⟨n, hn⟩ : ∃ n, d.size = n := ⟨_, rfl⟩
  have INS : Hid (∀ (a b : Nat) (dk : Array α) (W : World), a ≤ b → b ≤ n → dk.size = n → SWK enc k w0 blk off dk W →
      Calls P 78 #[.slice (some ⟨blk, off, none⟩) n cap, .int .i64 a, .int .i64 b, .func (.func g) #[] cb] W (MergeEnd cf key enc k w0 blk off a b dk)) := Lib.hid fun a b dk W h1 h2 h3 h4 => by
    have := ins a b dk W h1 (by omega) (by omega) h4
    rwa [h3] at this
  have SYM : Hid (∀ (a m b : Nat) (dk : Array α) (W : World), a < m → m < b → b ≤ n → dk.size = n → SWK enc k w0 blk off dk W → SortedIn (ltOf cf) a m dk → SortedIn (ltOf cf) m b dk →
      Calls P 79 #[.slice (some ⟨blk, off, none⟩) n cap, .int .i64 a, .int .i64 m, .int .i64 b, .func (.func g) #[] cb] W (MergeEnd cf key enc k w0 blk off a b dk)) := Lib.hid fun a m b dk W h1 h2 h3 h4 h5 h6 h7 => by
    have := symMerge_any L enc cf hO key hkey g cb eg blk off cap d0 w0 hcmp R (by omega) (b - a) a m b dk W (Nat.le_refl _) h1 h2 (by omega) (by omega) h5 h6 h7
    rwa [h4] at this
  have S0 : Aside (SWK enc k w0 blk off d w) := S
  have hnz : n < 2305843009213693952 := by omega
  have HN := Lib.hid hn
  rw [hn]
  clear S ins hcmp hn hkey hsz hs
  go_enter L.f75, Try.ntmps75
  go_wp2
  go_loopg [7, 8] n (fun kx s7 s8 wr => ∃ (a b : Nat) (dk : Array α), s7 = .int .i64 a ∧ s8 = .int .i64 b ∧ a + 20 ≤ b ∧ b ≤ a + 20 ∧ a ≤ n ∧ n - a ≤ kx ∧ dk.size = n ∧ Aside (SWK enc k w0 blk off dk wr) ∧ Hid ((∃ q, a = 20 * q) ∧ Runs (ltOf cf) 20 0 a dk ∧ Merged key 0 n d dk))
  case atStart => exact ⟨0, 20, d, rfl, rfl, Nat.le_refl _, Nat.le_refl _, Nat.zero_le _, Nat.le_refl _, HN.out, S0, Lib.hid ⟨⟨0, rfl⟩, runs_none 20 0 d, Merged.refl key 0 n d⟩⟩
  case round =>
    clear S0
    obtain ⟨a, b, dk, rfl, rfl, hba, hba', han, hkx, hdk, S1, HI⟩ := hrel
    by_cases hbn : b ≤ n
    · have q78 := INS.out a b dk wr (by omega) hbn hdk S1.out
      go_wp2_with (go_at_call 78; (with_reducible refine q78.mono ?_); rintro e w1 ⟨rfl, d1, t1, m1, S2'⟩; have T1 := Lib.hid t1; have M1 := Lib.hid m1; have S2 : Aside _ := S2'; clear t1 m1 S2')
      go_roundg (n - b)
      case measure => omega
      case rel =>
        obtain ⟨⟨q, hq⟩, hr, hm⟩ := HI.out
        exact ⟨b, b + 20, d1, rfl, by go_num, Nat.le_refl _, Nat.le_refl _, hbn, Nat.le_refl _, M1.out.stab.1.trans hdk, S2, Lib.hid ⟨⟨q + 1, by omega⟩, runs_grow hq (by omega) hr (fun i hi => M1.out.out i (.inl hi)) T1.out, merged_grow hm M1.out hbn⟩⟩
    · have q78 := INS.out a n dk wr han (Nat.le_refl _) hdk S1.out
      go_wp2_with (go_at_call 78; (with_reducible refine q78.mono ?_); rintro e w1 ⟨rfl, d1, t1, m1, S2'⟩; have T1 := Lib.hid t1; have M1 := Lib.hid m1; have S2 : Aside _ := S2'; clear t1 m1 S2')
      have HB : Hid (Runs (ltOf cf) 20 0 n d1 ∧ Merged key 0 n d d1) := by
        obtain ⟨⟨q, hq⟩, hr, hm⟩ := HI.out
        exact Lib.hid ⟨runs_grow hq (by omega) hr (fun i hi => M1.out.out i (.inl hi)) T1.out, merged_grow hm M1.out (Nat.le_refl _)⟩
      have hd1 : d1.size = n := M1.out.stab.1.trans hdk
      clear HI T1 M1 S1 q78
      go_loopg [6] n (fun kx s6 wr2 => ∃ (bs : Nat) (dk : Array α), s6 = .int .i64 bs ∧ 0 < bs ∧ (bs ≤ 20 ∨ bs ≤ 2 * n) ∧ n - bs ≤ kx ∧ dk.size = n ∧ Aside (SWK enc k w0 blk off dk wr2) ∧ Hid (Runs (ltOf cf) bs 0 n dk ∧ Merged key 0 n d dk))
      case atStart => exact ⟨20, d1, rfl, by omega, .inl (Nat.le_refl _), by omega, hd1, S2, HB⟩
      case round =>
        clear S2 HB hd1 hdk
        obtain ⟨bs, dk, rfl, hbs, hbs2, hkx2, hdk, S1, HI⟩ := hrel
        by_cases hlt : bs < n
        · obtain ⟨b2, hb2⟩ : ∃ b2, b2 = 2 * bs := ⟨_, rfl⟩
          have eb2 : 2 * (bs : Int) = (b2 : Int) := by omega
          have eb3 : (bs : Int) * 2 = (b2 : Int) := by omega
          have HB2 := Lib.hid hb2
          have g1 : b2 ≤ 2 * bs := by omega
          have g2 : 2 * bs ≤ b2 := by omega
          clear hb2
          go_wp2
          go_loopg [7, 8] n (fun kx s7 s8 wr3 => ∃ (a b : Nat) (dj : Array α), s7 = .int .i64 a ∧ s8 = .int .i64 b ∧ a + b2 ≤ b ∧ b ≤ a + b2 ∧ a ≤ n ∧ n - a ≤ kx ∧ dj.size = n ∧ Aside (SWK enc k w0 blk off dj wr3) ∧ Hid ((∃ q, a = b2 * q) ∧ Runs (ltOf cf) b2 0 a dj ∧ Runs (ltOf cf) bs a n dj ∧ Merged key 0 n d dj))
          case atStart => exact ⟨0, b2, dk, rfl, rfl, by omega, by omega, Nat.zero_le _, Nat.le_refl _, hdk, S1, Lib.hid ⟨⟨0, by omega⟩, runs_none b2 0 dk, HI.out.1, HI.out.2⟩⟩
          case round =>
            clear S1 HI hdk
            obtain ⟨a, b, dj, rfl, rfl, hba, hba', han, hkx3, hdj, S1, HI⟩ := hrel
            obtain ⟨m, hm⟩ : ∃ m, m = a + bs := ⟨_, rfl⟩
            have em : (a : Int) + (bs : Int) = (m : Int) := by omega
            -- what is sorted from a on
            have HS : Hid (∀ e, m ≤ n → e ≤ a + b2 → e ≤ n → SortedIn (ltOf cf) a m dj ∧ SortedIn (ltOf cf) m e dj) := Lib.hid fun e h1 h2 h3 => by
              obtain ⟨⟨q, hq⟩, hr, hr2, _⟩ := HI.out
              have hq1 : a = bs * (2 * q) := by rw [hq, HB2.out, Nat.mul_comm 2 bs, Nat.mul_assoc]
              have hq2 : m = bs * (2 * q + 1) := by rw [Nat.mul_succ, ← hq1, hm]
              exact ⟨runs_sorted hq1 hr2 (by omega) h1, runs_sorted hq2 (runs_sub hr2 (by omega)) (by omega) h3⟩
            have g3 : a + bs ≤ m := by omega
            have g4 : m ≤ a + bs := by omega
            clear hm
            by_cases hbn : b ≤ n
            · have q79 := SYM.out a m b dj wr (by omega) (by omega) hbn hdj S1.out (HS.out b (by omega) (by omega) hbn).1 (HS.out b (by omega) (by omega) hbn).2
              have eb4 : (b : Int) + 2 * (bs : Int) = ((b + b2 : Nat) : Int) := by omega
              go_wp2_with (go_at_call 79; (with_reducible refine q79.mono ?_); rintro e w2 ⟨rfl, d2, t2, m2, S2'⟩; have T2 := Lib.hid t2; have M2 := Lib.hid m2; have S2 : Aside _ := S2'; clear t2 m2 S2')
              go_roundg (n - b)
              case measure => omega
              case rel =>
                obtain ⟨⟨q, hq⟩, hr, hr2, hm2⟩ := HI.out
                exact ⟨b, b + b2, d2, rfl, by first | rfl | (congr 1; omega), Nat.le_refl _, Nat.le_refl _, hbn, Nat.le_refl _, M2.out.stab.1.trans hdj, S2, Lib.hid ⟨⟨q + 1, by rw [Nat.mul_succ, ← hq]; omega⟩, runs_grow hq (by omega) hr (fun i hi => M2.out.out i (.inl hi)) T2.out,
                  runs_same (runs_sub hr2 (by omega)) (fun i h1 h2 => M2.out.out i (.inr h1)), merged_grow hm2 M2.out hbn⟩⟩
            · by_cases hmn : m < n
              · have q79 := SYM.out a m n dj wr (by omega) hmn (Nat.le_refl _) hdj S1.out (HS.out n (by omega) (by omega) (Nat.le_refl _)).1 (HS.out n (by omega) (by omega) (Nat.le_refl _)).2
                go_wp2_with (go_at_call 79; (with_reducible refine q79.mono ?_); rintro e w2 ⟨rfl, d2, t2, m2, S2'⟩; have T2 := Lib.hid t2; have M2 := Lib.hid m2; have S2 : Aside _ := S2'; clear t2 m2 S2')
                go_roundg (n - b2)
                case measure => omega
                case rel =>
                  obtain ⟨⟨q, hq⟩, hr, hr2, hm2⟩ := HI.out
                  exact ⟨b2, d2, rfl, by omega, by omega, Nat.le_refl _, M2.out.stab.1.trans hdj, S2, Lib.hid ⟨runs_grow hq (by omega) hr (fun i hi => M2.out.out i (.inl hi)) T2.out, merged_grow hm2 M2.out (Nat.le_refl _)⟩⟩
              · go_wp2
                go_roundg (n - b2)
                case measure => omega
                case rel =>
                  obtain ⟨⟨q, hq⟩, hr, hr2, hm2⟩ := HI.out
                  have hq1 : a = bs * (2 * q) := by rw [hq, HB2.out, Nat.mul_comm 2 bs, Nat.mul_assoc]
                  exact ⟨b2, dj, rfl, by omega, by omega, Nat.le_refl _, hdj, S1, Lib.hid ⟨runs_grow hq (by omega) hr (fun _ _ => rfl) (runs_sorted hq1 hr2 (by omega) (Nat.le_refl _)), hm2⟩⟩
        · go_wp2
          go_end0
          exact ⟨rfl, dk, runs_sorted (q := 0) (by omega) HI.out.1 (by omega) (Nat.le_refl _), HI.out.2, S1.out⟩
end
end Go.Proofs.Ytfnmmnbndfdpiaa
