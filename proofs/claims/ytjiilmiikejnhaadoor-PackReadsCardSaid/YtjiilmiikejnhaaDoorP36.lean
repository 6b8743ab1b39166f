/-
  Plain mathematics for PackBursts: bytes with bits of a pattern turned; transducers' bytes with more behind them, and cut. PackBursts: the walk.
-/
import Derived.Test.YtjiilmiikejnhaaDoorP34
set_option linter.unusedVariables false
set_option linter.unusedSimpArgs false
namespace Go.Proofs.YtjiilmiikejnhaaDoor
open Go.RowKit Go.Shelf

theorem rowOf_flip {w : World} {b : Nat} {l : List UInt8} (h : RowOf w b l) (pl : Nat) (hp : pl < 8 * l.length) (y : Int) (hy : y = (((l.getD (pl / 8) 0).toNat ^^^ 2 ^ (pl % 8) : Nat) : Int)) :
    RowOf ((w.setCell ⟨b, pl / 8, none⟩ (.int .u8 y)).drew) b (Plain.flip l pl) := by
  have hi : pl / 8 < l.length := by omega
  have hx : (l.getD (pl / 8) 0).toNat ^^^ 2 ^ (pl % 8) < 256 := Plain.xor_lt8 (l.getD (pl / 8) 0).toNat_lt (Plain.pow_lt8 _ (by omega))
  constructor
  · intro i hil
    rw [Plain.flip_length] at hil
    show ((w.setCell ⟨b, pl / 8, none⟩ (.int .u8 y))).cell? _ = _
    by_cases e : pl / 8 = i
    · subst e
      rw [World.cell?_setCell_same (h := h.1 _ hi), hy]
      unfold Plain.flip
      rw [getD_lt8 (l := l.set (pl / 8) _) (by simpa using hi), List.getElem_set_self, Plain.u8_of hx]
    · rw [World.cell?_setCell_other (h := fun h => e (by injection h)), h.1 i hil]
      unfold Plain.flip
      rw [getD_lt8 hil, getD_lt8 (by simpa using hil), List.getElem_set_ne e]
  · intro i hil
    rw [Plain.flip_length] at hil
    show ((w.setCell ⟨b, pl / 8, none⟩ (.int .u8 y))).frozen? _ = _
    rw [World.frozen?_setCell, h.2 i hil]

theorem turn_store {w : World} {b : Nat} {l : List UInt8} {pl i r x : Nat} (h : RowOf w b l) (hp : pl < 8 * l.length) (hi : pl / 8 = i) (hr : pl % 8 = r) (hx : (l.getD i 0).toNat = x) :
    RowOf ((w.setCell ⟨b, i, none⟩ (.int .u8 (bits .xor .u8 (x : Int) (2 ^ r % 256)))).drew) b (Plain.flip l pl) := by
  subst hi hr hx
  have h2 : 2 ^ (pl % 8) < 256 := Plain.pow_lt8 _ (by omega)
  have e : (2 : Int) ^ (pl % 8) % 256 = ((2 ^ (pl % 8) : Nat) : Int) := by
    have e1 : ((2 ^ (pl % 8) : Nat) : Int) = (2 : Int) ^ (pl % 8) := by rw [Int.natCast_pow]; rfl
    rw [← e1]
    generalize 2 ^ (pl % 8) = z at h2
    omega
  exact rowOf_flip h pl hp _ (by rw [e, u8_xor_nat _ _ (l.getD (pl / 8) 0).toNat_lt h2])

/-- Bytes with bits of a pattern turned. -/
def turned (s : ByteArray) (a p : Nat) : ByteArray := ⟨(Plain.turnTo s.data.toList a p 32).toArray⟩

theorem turned_size (s : ByteArray) (a p : Nat) : (turned s a p).size = s.size := by
  rw [← ba_length, ← ba_length]
  exact Plain.turnTo_length _ _ _ _

theorem burst_seal (T : ByteArray) (a p : Nat) (ha : a ≤ 8 * (sealed T).size) (hne : turned (sealed T) a p ≠ sealed T) : isSeal (turned (sealed T) a p) = false := by
  rcases h : isSeal (turned (sealed T) a p) with _ | _
  · rfl
  · exfalso
    apply hne
    have h1 := isSeal_run _ h
    have h2 := isSeal_run _ (isSeal_sealed T)
    apply ba_ext
    exact Plain.burst _ a p 4294967295 (by rw [ba_length]; exact ha) (h1.trans h2.symm)

/-- Bytes behind a transducer's are told. -/
theorem bodyR_more {n init : Nat} {l : List DSt} (T : List UInt8) (hT : T ≠ []) (hn : n ≤ 100000) (hi : init < 18446744073709551616) (hl : l ≠ []) (hL : l.length < 18446744073709551616) (hok : ∀ x ∈ l, x.ok) (hm : maySs 0 l = true) :
    bodyR (layT n l init ++ T) = .error (4, (layT n l init).length) := by
  have hlen := laySs_len l 0 hm
  have hpos : 1 ≤ l.length := by
    cases l with
    | nil => exact absurd rfl hl
    | cons _ _ => simp
  have hT1 : 1 ≤ T.length := List.length_pos_iff.2 hT
  obtain ⟨s, hs⟩ : ∃ s, s = layT n l init ++ T := ⟨_, rfl⟩
  have h0 : s.drop 0 = magicL ++ (Plain.enc n ++ (Plain.enc l.length ++ (laySs 0 l ++ (Plain.enc init ++ T)))) := by rw [hs]; simp [layT]
  have h1 := drop_next h0
  have h2 := drop_next h1
  have h3 := drop_next h2
  have h4 := drop_next h3
  have hS : s.length = 3 + (Plain.enc n).length + (Plain.enc l.length).length + (laySs 0 l).length + (Plain.enc init).length + T.length := by
    rw [hs]; simp [layT, magicL]; omega
  have hS2 : (layT n l init).length = 3 + (Plain.enc n).length + (Plain.enc l.length).length + (laySs 0 l).length + (Plain.enc init).length := by
    simp [layT, magicL]; omega
  rw [← hs]
  unfold bodyR
  have hmag : magR s 4 0 = none := by
    have : s = magicL ++ (Plain.enc n ++ (Plain.enc l.length ++ (laySs 0 l ++ (Plain.enc init ++ T)))) := by simpa using h0
    rw [this]
    exact magR_lay _
  rw [hmag]
  dsimp only
  rw [show (0 : Nat) + magicL.length = 3 from rfl] at h1 h2 h3 h4
  rw [numR_enc (by omega) (Nat.zero_le _) hn h1]
  dsimp only
  rw [numR_enc hL hpos (by omega) h2]
  dsimp only
  rw [stsR_lay hL l _ 0 _ (s.length + 2) [] (by omega) (by omega) hok hm h3]
  dsimp only
  rw [numR_enc hi (Nat.zero_le _) (by omega) h4]
  dsimp only
  rw [if_neg (by omega), hS2]
/-- What is cut is refused. -/
theorem bodyR_cut {n init : Nat} {l : List DSt} (hn : n ≤ 100000) (hi : init < 18446744073709551616) (h : Formed l) {k : Nat} (hk : k < (layT n l init).length) : ∃ c p, bodyR ((layT n l init).take k) = .error (c, p) := by
  cases hr : bodyR ((layT n l init).take k) with
  | error r => exact ⟨r.1, r.2, rfl⟩
  | ok r =>
    exfalso
    obtain ⟨n', l', i'⟩ := r
    have hl2 := layT_le hn hi h
    obtain ⟨e1, e2, e3, e4, e5, e6, e7⟩ := bodyR_ok (by rw [List.length_take]; omega) hr
    have hback := formed_back hn hi h
    have hne : (layT n l init).drop k ≠ [] := fun e => by
      have := congrArg List.length e
      simp at this
      omega
    have hsplit : layT n l init = layT n' l' i' ++ (layT n l init).drop k := by rw [← e1, List.take_append_drop]
    rw [hsplit, bodyR_more _ hne e2 e3 e4 (by have := List.length_take_le k (layT n l init); omega) e5 e6] at hback
    cases hback
end Go.Proofs.YtjiilmiikejnhaaDoor
namespace Go.Proofs.YtjiilmiikejnhaaDoor
open Go.RowKit Go.Shelf

theorem frozen_same {w w' : World} {b o : Nat} (h : w'.heap[b]? = w.heap[b]?) : w'.frozen? ⟨b, o, none⟩ = w.frozen? ⟨b, o, none⟩ := by simp only [World.frozen?, h]

set_option maxHeartbeats 4000000 in
set_option maxRecDepth 100000 in
theorem bursts_walk {w : World} {va : Value} {la : List DSt} {ia at0 p : Nat} (hF : Fours w) (hE : ErrT w) (h1 : StsC w va la) (ok1 : ∀ s ∈ la, s.ok) (hia : ia < 18446744073709551616) (hat : at0 < 65536) (hp : p < 4294967296) :
    Calls Tryd.prog 6 #[.agg #[va, .int .u64 (ia : Int)], .int .u16 (at0 : Int), .int .u32 (p : Int)] w fun e w' => e = .returned (.bool true) ∧ Below w.heap.size w w' := by
  have WK : Hid (∀ W, Below w.heap.size w W → Calls Tryd.prog 14 #[] W fun e w' => e = .returned (.bool true) ∧ Below W.heap.size W w') := Lib.hid fun W hb => works_any (hF.below hb) (hE.below hb)
  obtain ⟨F, hF1⟩ : ∃ F, F = formedT la := ⟨_, rfl⟩
  have hFF : Formed F := by rw [hF1]; exact formedT_formed ok1
  obtain ⟨nF, hnF⟩ : ∃ n, F.length = n := ⟨_, rfl⟩
  have FA : Hid (∀ W, Below w.heap.size w W → Calls Tryd.prog 10 #[.agg #[va, .int .u64 (ia : Int)]] W fun e w' => ∃ ad c, e = .returned (.agg #[.slice ad nF c, .int .u64 (ia : Int)]) ∧ Sts w' (.slice ad nF c) F ∧ Below W.heap.size W w') := Lib.hid fun W hb => by rw [← hnF, hF1]; exact formed_any (h1.below hb)
  obtain ⟨L, hL⟩ : ∃ L, layT 7 F ia = L := ⟨_, rfl⟩
  obtain ⟨S, hS⟩ : ∃ S, sealed ⟨L.toArray⟩ = S := ⟨_, rfl⟩
  obtain ⟨z, hz⟩ : ∃ z, S.size = z := ⟨_, rfl⟩
  have hLl : L.length ≤ 2000 := by rw [← hL]; exact layT_le (by omega) hia hFF
  have hL3 : 3 ≤ L.length := by rw [← hL]; simp [layT, magicL]
  have hzL : z = L.length + 4 := by rw [← hz, ← hS, sealed_size]; show L.toArray.size + 4 = _; simp
  have P1 : Hid (∀ W v, Below w.heap.size w W → Sts W v F → Calls Tryd.prog 11 #[.int .i64 7, .agg #[v, .int .u64 (ia : Int)]] W fun e w' => e = .returned (.tuple #[.string S, .int .i64 0]) ∧ Below W.heap.size W w') := Lib.hid fun W v hb h => by
    have := formed_put (n := 7) (by omega) hia hFF (hF.below hb) h
    rwa [hL, hS] at this
  have HSZ : Hid (∀ W, Below w.heap.size w W → ∀ y : ByteArray, y.size ≤ 3000 → Calls Tryd.prog 20 #[.string y] W fun e w' => e = .returned (.string (sealed y)) ∧ Below W.heap.size W w') := Lib.hid fun W hb y hy => seal_any y W (hF.below hb) (by omega)
  have GE : Hid (∀ W, Below w.heap.size w W → ∀ (y : ByteArray) (c p : Nat), y.size ≤ 3000 → readR y = .error (c, p) → Calls Tryd.prog 18 #[.string y] W fun e w' => ∃ bf, e = .returned (.tuple #[.int .i64 0, .agg #[.slice none 0 0, .int .u64 0], .iface 88 (.pointer (some ⟨bf, 0, none⟩))]) ∧ FltB w' bf (c : Int) (p : Int) ∧ Below W.heap.size W w') := Lib.hid fun W hb y c p hy hr => by
    have q := packGet_any (hF.below hb) (s := y) (by omega)
    rw [hr] at q
    refine q.mono ?_
    rintro e w' ⟨⟨bf, rfl, h1, h2⟩, h3⟩
    exact ⟨bf, rfl, h2, h3⟩
  have GO : Hid (∀ W, Below w.heap.size w W → Calls Tryd.prog 18 #[.string S] W fun e w' => ∃ ad c, e = .returned (.tuple #[.int .i64 7, .agg #[.slice ad nF c, .int .u64 (ia : Int)], .nilIface]) ∧ Sts w' (.slice ad nF c) F ∧ Below W.heap.size W w') := Lib.hid fun W hb => by
    have := formed_get (n := 7) (by omega) hia hFF (hF.below hb)
    rwa [hL, hS, hnF] at this
  have TD : Hid (∀ W b (c p : Int), (c == 0) = false → FltB W b c p → Below w.heap.size w W → Calls Tryd.prog 21 #[.iface 88 (.pointer (some ⟨b, 0, none⟩)), .agg #[.int .i64 c, .int .i64 p]] W fun e w' => e = .returned (.bool true) ∧ Below W.heap.size W w') := Lib.hid fun W b c p hc h hb => told_yes (hE.below hb) h hc
  have hcut : Hid (∀ k, k < L.length → ∃ c p, bodyR (L.take k) = .error (c, p)) := Lib.hid fun k hk => by rw [← hL] at hk ⊢; exact bodyR_cut (by omega) hia hFF hk
  have hlong : Hid (bodyR (L ++ [0]) = .error (4, L.length)) := Lib.hid (by rw [← hL]; exact bodyR_more [0] (by simp) (by omega) hia hFF.ne (by have := hFF.len; omega) hFF.ok hFF.may)
  obtain ⟨a, ha0⟩ : ∃ a, at0 % (8 * z) = a := ⟨_, rfl⟩
  have haz : a < 8 * z := by rw [← ha0]; exact Nat.mod_lt _ (by omega)
  have ha : (at0 : Int) % (8 * (z : Int)) = (a : Int) := by rw [← ha0]; simp
  have HSS := Lib.hid (And.intro hS (And.intro hz hzL))
  have hz7 : 7 ≤ z := by omega
  have hz8 : z ≤ 2004 := by omega
  have hb0 := below_alloc w (.cells #[va, .int .u64 (ia : Int)] 25)
  have HB0 := Lib.hid (And.intro hb0 (show FstB (w.alloc (.cells #[va, .int .u64 (ia : Int)] 25)) w.heap.size va ia from heap_alloc_new w _))
  have y0 := fun (W : World) (hb : Below (w.heap.size + 1) (w.alloc (.cells #[va, .int .u64 (ia : Int)] 25)) W) => FstB.at0 (HB0.out.2.kp (Kp.below (M := fun _ => False) (hb.mono (by simp))) (fun h => h))
  clear h1 ok1 hF hE hF1 hFF hnF hL hS hz ha0 hb0 y0 hzL hLl hL3
  go_enter Tryd.func6, Tryd.ntmps6
  go_wp2_with (first
    | (go_at_call 14
       (with_reducible refine (WK.out _ HB0.out.1).mono ?_)
       go_loud (
       rintro e' w1 ⟨rfl, hb1⟩
       have f1 := HB0.out.2.kp (Kp.below (M := fun _ => False) hb1) (fun h => h)
       have k0 := f1.at0
       have k1 := f1.at1
       have HB1 := Lib.hid (HB0.out.1.trans (hb1.mono HB0.out.1.size))
       clear hb1 f1))
    | (go_at_call 10
       (with_reducible refine (FA.out _ HB1.out).mono ?_)
       go_loud (
       rintro e' w2 ⟨ad2, c2, rfl, hs2, hb2⟩
       have HB2 := Lib.hid (And.intro hs2 (HB1.out.trans (hb2.mono HB1.out.size)))
       clear hb2 hs2 k0 k1))
    | (go_at_call 11
       (with_reducible refine (P1.out _ _ HB2.out.2 HB2.out.1).mono ?_)
       go_loud (
       rintro e' w3 ⟨rfl, hb3⟩
       have HB3 := Lib.hid (HB2.out.2.trans (hb3.mono HB2.out.2.size))
       have hconv := Lib.run_convert_string_bytes (P := Tryd.prog) w3 9 43 5 S Tryd.underlying9 Tryd.underlying43 Tryd.underlying5
       have hr1 := rowOf_conv w3 S
       have hbc := below_conv w3 S
       obtain ⟨w4, hw4⟩ : ∃ w4, Lib.bytesWorld w3 5 S = w4 := ⟨_, rfl⟩
       obtain ⟨cc, hcc⟩ : ∃ cc, grownCap w3 S.size 0 5 = cc := ⟨_, rfl⟩
       obtain ⟨b, hb⟩ : ∃ b, w3.heap.size = b := ⟨_, rfl⟩
       rw [hw4, hb] at hr1
       rw [hw4, hcc, hb, HSS.out.2.1] at hconv
       rw [hw4, hb] at hbc
       have HR := Lib.hid (And.intro hr1 (And.intro hbc (And.intro (show w.heap.size ≤ b by rw [← hb]; exact HB3.out.size) (show Below w.heap.size w w3 from HB3.out))))
       clear hw4 hcc hb hb3 hr1 hbc)))
  go_loopw [10] (fun k wr => ∃ j : Nat, j ≤ 32 ∧ k = .int .i64 j ∧ RowOf wr b (Plain.turnTo S.data.toList a p j) ∧ Hid (Below b w4 wr)) (fun i _ => 32 - (intOf i).toNat)
  case atStart => exact ⟨0, by omega, rfl, HR.out.1, Lib.hid (Below.refl _ _)⟩
  case round =>
    obtain ⟨j, hj, rfl, hrow, hbw⟩ := hrel
    have hlen : (Plain.turnTo S.data.toList a p j).length = z := by rw [Plain.turnTo_length]; exact HSS.out.2.1
    have HL := Lib.hid hlen; clear hlen
    have hz0 : decide ((0 : Int) < (z : Int)) = true := by simp; omega
    have hz00 : decide (0 < z) = true := by simp; omega
    have hz1 : ¬ ((8 : Int) * (z : Int) = 0) := by omega
    by_cases hlt : j < 32
    · have hbit := bit_test p j hp
      by_cases h1 : p / 2 ^ j % 2 = 1 ∧ a + j < 8 * z
      · obtain ⟨h1, hin⟩ := h1
        rw [h1] at hbit
        have H1 := Lib.hid (show p / 2 ^ j % 2 = 1 ∧ a + j < 8 * z from ⟨h1, hin⟩)
        obtain ⟨i, hi⟩ : ∃ i : Nat, (a + j) / 8 = i := ⟨_, rfl⟩
        obtain ⟨r, hr⟩ : ∃ r : Nat, (a + j) % 8 = r := ⟨_, rfl⟩
        have hq : ((a : Int) + (j : Int)) / 8 = (i : Int) := by omega
        have hrr : ((a : Int) + (j : Int)) % 8 = (r : Int) := by omega
        have hi2 : i < z := by omega
        have hr2 : r < 8 := by omega
        have hcell := hrow.1 i (by rw [HL.out]; exact hi2)
        have hfr := hrow.2 i (by rw [HL.out]; exact hi2)
        obtain ⟨x, hx⟩ : ∃ x : Nat, ((Plain.turnTo S.data.toList a p j).getD i 0).toNat = x := ⟨_, rfl⟩
        rw [hx] at hcell
        have Hx := Lib.hid hx
        have Hi := Lib.hid hi
        have Hr := Lib.hid hr
        clear hi hr h1 hx
        go_wp2_with fail
        go_region
        go_wp2_with fail
        exact ⟨⟨j + 1, by omega, by go_num, by unfold Plain.turnTo; rw [if_pos (by rw [show S.data.toList.length = z from HSS.out.2.1]; exact H1.out)]; exact turn_store hrow (by rw [HL.out]; exact H1.out.2) Hi.out Hr.out Hx.out, Lib.hid ((hbw.out.setCell (Nat.le_refl _) _).drew)⟩, by simp [intOf]; omega⟩
      · have H1 := Lib.hid h1
        rcases Nat.mod_two_eq_zero_or_one (p / 2 ^ j) with h0 | h0
        · rw [h0] at hbit
          clear h0 h1
          go_wp2_with fail
          exact ⟨⟨j + 1, by omega, by go_num, by unfold Plain.turnTo; rw [if_neg (by rw [show S.data.toList.length = z from HSS.out.2.1]; exact H1.out)]; exact hrow, hbw⟩, by simp [intOf]; omega⟩
        · have hin : ¬ a + j < 8 * z := fun h => h1 ⟨h0, h⟩
          rw [h0] at hbit
          clear h0 h1
          go_wp2_with fail
          exact ⟨⟨j + 1, by omega, by go_num, by unfold Plain.turnTo; rw [if_neg (by rw [show S.data.toList.length = z from HSS.out.2.1]; exact H1.out)]; exact hrow, hbw⟩, by simp [intOf]; omega⟩
    · obtain rfl : j = 32 := by omega
      obtain ⟨B, hB⟩ : ∃ B : ByteArray, (⟨(Plain.turnTo S.data.toList a p 32).toArray⟩ : ByteArray) = B := ⟨_, rfl⟩
      have hbl : b < wr.heap.size := by
        have := hrow.1 0 (by rw [HL.out]; omega)
        exact block_lt_of_cell this
      have HCV : Hid (∀ W, Below wr.heap.size wr W → (convert 43 9 (.slice (some ⟨b, 0, none⟩) z cc)).run Tryd.prog W = .ok (.string B) W) := Lib.hid fun W hb => by
        have hrW : RowOf W b (Plain.turnTo S.data.toList a p 32) := ⟨fun i hi => (hb.cell (p := ⟨b, i, none⟩) hbl).trans (hrow.1 i hi), fun i hi => (frozen_same (hb.block b hbl)).trans (hrow.2 i hi)⟩
        have := rowOf_str (c := cc) hrW
        rw [HL.out, hB] at this
        exact this
      have hcv := HCV.out wr (Below.refl _ _)
      have hBt : turned S a p = B := hB
      have hBz : B.size = z := by rw [← hBt, turned_size]; exact HSS.out.2.1
      have HW := Lib.hid (HR.out.2.2.2.trans ((HR.out.2.1.trans hbw.out).mono HR.out.2.2.1))
      have hSz : S.size = z := HSS.out.2.1
      by_cases hBS : B = S
      · rw [hBS] at hcv HCV
        clear hB hBt hBz hBS hrow hlt hj HL hbl hbw
        go_wp2_with (go_at_call 18
                     (with_reducible refine (GO.out _ HW.out).mono ?_)
                     go_loud (
                     rintro e' v1 ⟨ad7, c7, rfl, hs7, hb1⟩
                     have hcv1 := HCV.out _ (below_alloc' (o := .cells #[.slice ad7 nF c7, .int .u64 (ia : Int)] 25) hb1)
                     have HV1 := Lib.hid (below_alloc' (o := .cells #[.slice ad7 nF c7, .int .u64 (ia : Int)] 25) (HW.out.trans (hb1.mono HW.out.size)))
                     clear hb1 hs7 hcv))
        go_ret
        exact ⟨rfl, HV1.out⟩
      · obtain ⟨m, hm⟩ : ∃ m, L.length = m := ⟨_, rfl⟩
        have hzm : z = m + 4 := by rw [HSS.out.2.2, hm]
        obtain ⟨D, hD⟩ : ∃ D : ByteArray, S.extract 0 m = D := ⟨_, rfl⟩
        have hDL : D.data.toList = L := by
          rw [← hD, ← HSS.out.1]
          unfold sealed
          rw [Lib.extract_data, ba_append]
          simp [← hm]
        have hDs : D.size = m := by rw [← ba_length, hDL, hm]
        obtain ⟨c, hc⟩ : ∃ c, at0 % m = c := ⟨_, rfl⟩
        have hm3 : 3 ≤ m := by omega
        have hcm : c < m := by rw [← hc]; exact Nat.mod_lt _ (by omega)
        have hcm' : c ≤ m := Nat.le_of_lt hcm
        have hmod : (at0 : Int) % (m : Int) = (c : Int) := by rw [← hc]; simp
        have hsub : (z : Int) - 4 = (m : Int) := by omega
        obtain ⟨X, hX⟩ : ∃ X : ByteArray, D.extract 0 c = X := ⟨_, rfl⟩
        have hXL : X.data.toList = L.take c := by rw [← hX, Lib.extract_data, hDL]; simp
        have hXs : X.size ≤ 2900 := by rw [← ba_length, hXL, List.length_take]; omega
        obtain ⟨Y, hY⟩ : ∃ Y : ByteArray, D ++ (⟨#[0]⟩ : ByteArray) = Y := ⟨_, rfl⟩
        have hYL : Y.data.toList = L ++ [0] := by rw [← hY, ba_append, hDL]
        have hYs : Y.size ≤ 2900 := by rw [← ba_length, hYL, List.length_append]; simp; omega
        obtain ⟨c1, p1, hr1⟩ := hcut.out c (by omega)
        have hrX : readR (sealed X) = .error (c1, p1) := by rw [readR_sealed, hXL, hr1]
        have hrY : readR (sealed Y) = .error (4, m) := by rw [readR_sealed, hYL, hlong.out, hm]
        have hrB : readR B = .error (16, 0) := by
          unfold readR
          have : isSeal B = false := by
            rw [← hBt, ← HSS.out.1]
            exact burst_seal _ a p (by rw [HSS.out.1, HSS.out.2.1]; omega) (by rw [HSS.out.1, hBt]; exact hBS)
          rw [this]
          rfl
        have hne : (B.toList == S.toList) = false := by rw [toList_beq]; exact decide_eq_false hBS
        have HRB := Lib.hid (And.intro hrB (And.intro hrX (And.intro hrY (And.intro hBz (And.intro hXs hYs)))))
        have hYm : D.size + 1 ≤ 9223372036854775807 := by omega
        have hle1 : m ≤ z := by omega
        clear hB hBt hBS hrow hlt hj HL hbl hbw hDL hc hXL hYL hr1 hrX hrY hrB hm hzm hBz hYs
        go_wp2_with (first
          | (go_at_call 18
             (with_reducible refine (GE.out _ HW.out B 16 0 (by have := HRB.out.2.2.2.1; omega) HRB.out.1).mono ?_)
             go_loud (
             rintro e' v1 ⟨bf1, rfl, ht1, hb1⟩
             have hcv1 := HCV.out _ (below_alloc' (o := .cells #[.slice none 0 0, .int .u64 0] 25) hb1)
             have HV1 := Lib.hid (And.intro (ht1.below (below_alloc v1 (.cells #[.slice none 0 0, .int .u64 0] 25))) (below_alloc' (o := .cells #[.slice none 0 0, .int .u64 0] 25) (HW.out.trans (hb1.mono HW.out.size))))
             clear hb1 ht1 hcv))
          | (go_at_call 20
             (with_reducible refine (HSZ.out _ HV1.out.2 X (by have := HRB.out.2.2.2.2.1; omega)).mono ?_)
             go_loud (
             rintro e' v2 ⟨rfl, hb2⟩
             have HV2 := Lib.hid (And.intro (HV1.out.1.below hb2) (HV1.out.2.trans (hb2.mono HV1.out.2.size)))
             clear hb2 hcv1))
          | (go_at_call 18
             (with_reducible refine (GE.out _ HV2.out.2 (sealed X) c1 p1 (by rw [sealed_size]; have := HRB.out.2.2.2.2.1; omega) HRB.out.2.1).mono ?_)
             go_loud (
             rintro e' v3 ⟨bf3, rfl, -, hb3⟩
             have HV3 := Lib.hid (And.intro ((HV2.out.1.below hb3).below (below_alloc v3 (.cells #[.slice none 0 0, .int .u64 0] 25))) (below_alloc' (o := .cells #[.slice none 0 0, .int .u64 0] 25) (HV2.out.2.trans (hb3.mono HV2.out.2.size))))
             clear hb3))
          | (go_at_call 20
             (with_reducible refine (HSZ.out _ HV3.out.2 Y (by have := HRB.out.2.2.2.2.2; omega)).mono ?_)
             go_loud (
             rintro e' v4 ⟨rfl, hb4⟩
             have HV4 := Lib.hid (And.intro (HV3.out.1.below hb4) (HV3.out.2.trans (hb4.mono HV3.out.2.size)))
             clear hb4))
          | (go_at_call 18
             (with_reducible refine (GE.out _ HV4.out.2 (sealed Y) 4 m (by rw [sealed_size]; have := HRB.out.2.2.2.2.2; omega) HRB.out.2.2.1).mono ?_)
             go_loud (
             rintro e' v5 ⟨bf5, rfl, ht5, hb5⟩
             have HV5 := Lib.hid (And.intro ((HV4.out.1.below hb5).below (below_alloc v5 (.cells #[.slice none 0 0, .int .u64 0] 25))) (And.intro (below_alloc' (o := .cells #[.slice none 0 0, .int .u64 0] 25) (HV4.out.2.trans (hb5.mono HV4.out.2.size))) (ht5.below (below_alloc v5 (.cells #[.slice none 0 0, .int .u64 0] 25)))))
             clear hb5 ht5))
          | (go_at_call 21
             (with_reducible refine (TD.out _ bf1 16 0 rfl HV5.out.1 HV5.out.2.1).mono ?_)
             go_loud (
             rintro e' v6 ⟨rfl, hb6⟩
             have HV6 := Lib.hid (And.intro (HV5.out.2.2.below hb6) (HV5.out.2.1.trans (hb6.mono HV5.out.2.1.size)))
             clear hb6))
          | (go_at_call 21
             (with_reducible refine (TD.out _ bf5 4 (m : Int) rfl HV6.out.1 HV6.out.2).mono ?_)
             go_loud (
             rintro e' v7 ⟨rfl, hb7⟩
             have HV7 := Lib.hid (HV6.out.2.trans (hb7.mono HV6.out.2.size))
             clear hb7)))
        go_ret
        exact ⟨rfl, HV7.out⟩
end Go.Proofs.YtjiilmiikejnhaaDoor
