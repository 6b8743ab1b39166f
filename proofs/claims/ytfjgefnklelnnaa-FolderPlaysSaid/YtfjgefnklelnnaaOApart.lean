/-
  FolderApart: what other names leave of one.
-/
import Derived.Test.YtfjgefnklelnnaaOActs
namespace Go.Proofs.Ytfjgefnklelnnaa
open Go.RowKit Go.Shelf

def ownK : ByteArray := ⟨#[111, 119, 110]⟩
def ownN (t : Bool) : Nat := if t then 1 else 0
def FS.ownI (S : FS) (t : Bool) : Prop := ∀ i, findT (actsOn S.L0 (S.A.take i)) ownK.data.toList = if t then some 1 else none

theorem name_not_own (n : Nat) : ownK.data.toList ≠ (nameT n).data.toList := by
  rcases nameT_cases n with h | h | h | h | h | h | h <;> rw [h] <;> decide

theorem FS.ownI.there {S : FS} {t : Bool} (h : S.ownI t) : findT S.there ownK.data.toList = if t then some 1 else none := by
  have := h S.A.length
  rwa [List.take_length] at this
theorem ownI_snoc {L0 : Names} {A : List FAct} {n m : Nat} {x : FAct} {t : Bool} (h : FS.ownI ⟨L0, A, n⟩ t) (hx : findT (x.on (actsOn L0 A)) ownK.data.toList = if t then some 1 else none) : FS.ownI ⟨L0, A ++ [x], m⟩ t := fun i => by
  show findT (actsOn L0 ((A ++ [x]).take i)) _ = _
  by_cases hi : i ≤ A.length
  · rw [List.take_append_of_le_length hi]
    exact h i
  · rw [List.take_of_length_le (by rw [List.length_append]; simp; omega), actsOn_snoc]
    exact hx
theorem own_does {S : FS} {t : Bool} (h : S.ownI t) (hg : S.good) (x a b : Nat) : (S.does x a b).ownI t := by
  obtain ⟨L0, A, n⟩ := S
  have hr : Rising (actsOn L0 A) := hg.there.rising
  unfold FS.does
  split
  · unfold FS.create
    split
    · exact h
    · split
      · exact h
      · refine ownI_snoc h ?_
        show findT (withT (actsOn L0 A) _ _) _ = _
        rw [find_with hr, if_neg (name_not_own a)]
        exact h.there
  · split
    · unfold FS.rename
      split
      · exact h
      · split
        · exact h
        · refine ownI_snoc h ?_
          show findT (withT (withoutT (actsOn L0 A) _) _ _) _ = _
          rw [find_with (hr.without _), if_neg (name_not_own b), find_without hr, if_neg (name_not_own a)]
          exact h.there
    · unfold FS.remove
      split
      · exact h
      · refine ownI_snoc h ?_
        show findT (withoutT (actsOn L0 A) _) _ = _
        rw [find_without hr, if_neg (name_not_own a)]
        exact h.there
theorem own_survive {S : FS} {t : Bool} (h : S.ownI t) (k : Int) : (S.survive k).ownI t := fun i => by
  show findT (actsOn (actsOn S.L0 (S.A.take (upTo k S.A.length))) (([] : List FAct).take i)) _ = _
  rw [List.take_nil]
  exact h _
theorem own_foundN {S : FS} {t : Bool} (h : S.ownI t) : foundN S.there ownK.data.toList = ownN t := by
  unfold foundN
  rw [h.there]
  cases t <;> rfl
theorem own_foundB {S : FS} {t : Bool} (h : S.ownI t) : foundB S.there ownK.data.toList = t := by
  unfold foundB
  rw [h.there]
  cases t <;> rfl

theorem foundN_of {L : Names} {k : List UInt8} {m : Nat} (h : findT L k = some m) : foundN L k = m := by unfold foundN; rw [h]; rfl
theorem foundB_of {L : Names} {k : List UInt8} {m : Nat} (h : findT L k = some m) : foundB L k = true := by unfold foundB; rw [h]; rfl

/-- Behind a renaming: the new name has the number. -/
theorem rename_found {S : FS} (hg : S.good) {x a b : Nat} (hx : x % 3 = 1) (hf : foundB S.there (nameT a).data.toList = true) :
    foundB (S.does x a b).there (nameT b).data.toList = true ∧ foundN (S.does x a b).there (nameT b).data.toList = foundN S.there (nameT a).data.toList := by
  obtain ⟨L0, A, n⟩ := S
  have hr := hg.there.rising
  have hd : FS.does ⟨L0, A, n⟩ x a b = ⟨L0, A ++ [.rename (nameT a) (nameT b) (foundN (FS.there ⟨L0, A, n⟩) (nameT a).data.toList)], n⟩ := by
    unfold FS.does
    rw [if_neg (by omega), if_pos hx]
    unfold FS.rename
    rw [if_neg (by rw [nameT_may]; simp), if_neg (by rw [hf]; simp)]
  rw [hd]
  have ht : FS.there ⟨L0, A ++ [.rename (nameT a) (nameT b) (foundN (FS.there ⟨L0, A, n⟩) (nameT a).data.toList)], n⟩ = withT (withoutT (FS.there ⟨L0, A, n⟩) (nameT a).data.toList) (nameT b).data.toList (foundN (FS.there ⟨L0, A, n⟩) (nameT a).data.toList) := by
    unfold FS.there
    rw [actsOn_snoc]
    rfl
  rw [ht]
  have hq := find_with (hr.without (nameT a).data.toList) (nameT b).data.toList (foundN (FS.there ⟨L0, A, n⟩) (nameT a).data.toList) (nameT b).data.toList
  rw [if_pos rfl] at hq
  exact ⟨foundB_of hq, foundN_of hq⟩

theorem ownI_new (t : Bool) : FS.ownI (if t then ⟨[(ownK.data.toList, 1)], [], 1⟩ else ⟨[], [], 0⟩) t := fun i => by
  cases t
  · show findT (actsOn [] (([] : List FAct).take i)) _ = _
    rw [List.take_nil]; rfl
  · show findT (actsOn [(ownK.data.toList, 1)] (([] : List FAct).take i)) _ = _
    rw [List.take_nil]; rfl

theorem sole_does {w0 w : World} {p : Nat} {S : FS} (h : Sole w0 w p S) (hl : S.weight ≤ 90000) (x a b : Nat) (n : Int) (raw : ByteArray) (hx : x ≤ 255) (ha : a ≤ 255) (hb : b ≤ 255) :
    Calls Try.prog 24 #[.agg #[.int .u8 (x : Int), .int .u8 (a : Int), .int .u8 (b : Int), .int .i8 n, .string raw], .pointer (some ⟨p, 0, none⟩)] w fun e w' => e = .returned (.tuple #[]) ∧ Sole w0 w' p (S.does x a b) :=
  h.went (good_does h.good x a b) fun _ _ _ _ hf => does_any hf hl h.good x a b n raw hx ha hb

set_option maxHeartbeats 20000000 in
set_option maxRecDepth 100000 in
theorem folderApart_walk (l : List Deed) (v : Value) (c : Int) (t : Bool) (w : World) (hl : Deeds w v l) (hok : ∀ d ∈ l, d.ok) (hc1 : -128 ≤ c) (hc2 : c ≤ 127) :
    Calls Try.prog 7 #[v, .int .i8 c, .bool t] w fun e w' => e = .returned (.bool true) ∧ Below w.heap.size w w' := by
  obtain ⟨ad, cp, rfl, hc⟩ := hl
  have HC : Hid (∀ W, Below w.heap.size w W → ∀ i, i < l.length → (l.getD i default).ok ∧ ∃ b o, ad = some ⟨b, o, none⟩ ∧ DeedAt W b (o + i * 5) (l.getD i default)) := Lib.hid fun W hW i hi => by
    obtain ⟨b, o, ha, hlt, hd⟩ := hc i hi
    exact ⟨hok _ (by simp [List.getD, hi]), b, o, ha, hd.below hW hlt⟩
  have HW := Lib.hid works_any
  have Q8 : Hid (∀ W, Below w.heap.size w W → Calls Try.prog 8 #[] W fun e w' => ∃ p, e = .returned (.pointer (some ⟨p, 0, none⟩)) ∧ Sole w w' p FS.new) := Lib.hid fun W hW => sole_new w W hW
  have Q11 : Hid (∀ W p, Sole w W p FS.new → Calls Try.prog 11 #[.pointer (some ⟨p, 0, none⟩), .string ⟨#[111, 119, 110]⟩] W fun e w' => e = .returned (.tuple #[.int .i64 1, .int .i64 0]) ∧ Sole w w' p ⟨[], [.create ⟨#[111, 119, 110]⟩ 1], 1⟩) := Lib.hid fun W p h => sole_create h ⟨#[111, 119, 110]⟩ (by decide) (by decide)
  have Q17 : Hid (∀ W p, Sole w W p (if t then ⟨[], [.create ⟨#[111, 119, 110]⟩ 1], 1⟩ else FS.new) → Calls Try.prog 17 #[.pointer (some ⟨p, 0, none⟩)] W fun e w' => e = .returned (.tuple #[]) ∧ Sole w w' p (if t then ⟨[(ownK.data.toList, 1)], [], 1⟩ else ⟨[], [], 0⟩)) := Lib.hid fun W p h => by
    cases t
    · exact sole_sync h (by decide)
    · exact sole_sync h (by decide)
  have Q29 : Hid (∀ W p S, S.ownI t → Sole w W p S → Calls Try.prog 29 #[.pointer (some ⟨p, 0, none⟩), .string ⟨#[111, 119, 110]⟩] W fun e w' => e = .returned (.tuple #[.int .i64 (ownN t : Nat), .bool t]) ∧ W = w') := Lib.hid fun W p S hi h => by
    have := sole_find h ⟨#[111, 119, 110]⟩ (by decide)
    rw [show foundN S.there (⟨#[111, 119, 110]⟩ : ByteArray).data.toList = ownN t from own_foundN hi, show foundB S.there (⟨#[111, 119, 110]⟩ : ByteArray).data.toList = t from own_foundB hi] at this
    exact this
  have Q20 : Hid (∀ W p S, S.weight ≤ 90000 → Sole w W p S → Calls Try.prog 20 #[.pointer (some ⟨p, 0, none⟩), .int .i64 c] W fun e w' => e = .returned (.tuple #[]) ∧ Sole w w' p (S.survive c)) := Lib.hid fun W p S hw h => sole_survive h c (by omega) hw
  obtain ⟨ow, how⟩ : ∃ ow, ownN t = ow := ⟨_, rfl⟩
  have how1 : (t = true ∧ ow = 1) ∨ (t = false ∧ ow = 0) := by
    cases t with
    | true => exact .inl ⟨rfl, how.symm⟩
    | false => exact .inr ⟨rfl, how.symm⟩
  rw [how] at Q29
  have HOW := Lib.hid how1
  clear hc hok how how1
  go_enter Try.func7, Try.ntmps7
  go_upto_if 23 with (first
    | (go_at_call 23; (with_reducible refine (HW.out _).mono ?_); rintro e w1 ⟨rfl, h1⟩; have HB1 := Lib.hid h1; clear h1)
    | (go_at_call 8; (with_reducible refine (Q8.out _ HB1.out).mono ?_); rintro e w2 ⟨p, rfl, h2⟩; have H2 := Lib.hid h2; clear h2))
  go_cut [8] from 24 to 28 (fun s8 wx => s8 = .int .i64 (ow : Nat) ∧ Sole w wx p (if t then ⟨[], [.create ⟨#[111, 119, 110]⟩ 1], 1⟩ else FS.new))
  case first =>
    rcases HOW.out with ⟨rfl, rfl⟩ | ⟨rfl, rfl⟩
    · go_wp2_with (go_at_call 11; (with_reducible refine (Q11.out _ _ H2.out).mono ?_); rintro e w3 ⟨rfl, h3⟩; have H3 := Lib.hid h3; clear h3)
      go_meet
      exact ⟨rfl, H3.out⟩
    · go_wp2
      go_meet
      exact ⟨rfl, H2.out⟩
  case rest =>
  obtain ⟨rfl, h3⟩ := hcut
  have H3 := Lib.hid h3
  clear h3 H2 HB1
  go_wp2_with (go_at_call 17; (with_reducible refine (Q17.out _ _ H3.out).mono ?_); rintro e w4 ⟨rfl, h4⟩; have H4 := Lib.hid h4; clear h4)
  clear H3
  go_loopw [9] (fun s9 wr => ∃ (k : Nat) (S : FS), k ≤ 40 ∧ k ≤ l.length ∧ s9 = .int .i64 k ∧ S.weight ≤ 2 * k + 5 ∧ S.ownI t ∧ Sole w wr p S) (fun s9 _ => 40 - (intOf s9).toNat)
  case atStart => exact ⟨0, _, by omega, Nat.zero_le _, rfl, by cases t <;> decide, ownI_new t, H4.out⟩
  case round =>
    obtain ⟨k, S, hk, hkl, rfl, hwt, hown, hs⟩ := hrel
    have HS := Lib.hid hs
    have HO := Lib.hid hown
    have HWT := Lib.hid hwt
    clear hs hown hwt
    by_cases hlt : k < l.length
    · by_cases h40 : k < 40
      · obtain ⟨⟨ok0, ok1, ok2, ok3, ok4, ok5⟩, b, o, rfl, c0, c1, c2, c3, c4⟩ := HC.out _ HS.out.below k hlt
        obtain ⟨⟨x, a, b', n, raw⟩, hx⟩ : ∃ d, l.getD k default = d := ⟨_, rfl⟩
        rw [hx] at c0 c1 c2 c3 c4 ok0 ok1 ok2 ok3 ok4 ok5
        simp only at c0 c1 c2 c3 c4 ok0 ok1 ok2 ok3 ok4 ok5
        clear ok5
        obtain ⟨T, hT⟩ : ∃ T, S.there = T := ⟨_, rfl⟩
        obtain ⟨na, hna⟩ : ∃ na, nameT a = na := ⟨_, rfl⟩
        obtain ⟨nb, hnb⟩ : ∃ nb, nameT b' = nb := ⟨_, rfl⟩
        have hza := nameT_size a
        have hzb := nameT_size b'
        rw [hna] at hza
        rw [hnb] at hzb
        have q10a := quiet_call (w := wr) fun W _ => name_any a ok1 W
        have q10b := quiet_call (w := wr) fun W _ => name_any b' ok2 W
        rw [hna] at q10a
        rw [hnb] at q10b
        have gc1 := fun d os => cell_regrown c1 d os
        have gc2 := fun d os => cell_regrown c2 d os
        obtain ⟨fa, hfa⟩ : ∃ fa, foundB T na.data.toList = fa := ⟨_, rfl⟩
        obtain ⟨ma, hma⟩ : ∃ ma, foundN T na.data.toList = ma := ⟨_, rfl⟩
        have HCW : Hid (∀ W, Below w.heap.size w W → DeedAt W b (o + k * 5) ⟨x, a, b', n, raw⟩) := Lib.hid fun W hW => by
          obtain ⟨_, b2, o2, hb2, hd⟩ := HC.out W hW k hlt
          cases hb2
          rw [hx] at hd
          exact hd
        have Qf1 : Hid (∀ W, Below wr.heap.size wr W → Calls Try.prog 29 #[.pointer (some ⟨p, 0, none⟩), .string na] W fun e w' => e = .returned (.tuple #[.int .i64 (ma : Nat), .bool fa]) ∧ W = w') := Lib.hid fun W hW => by
          have := sole_find (HS.out.next hW) na (by omega)
          rw [hT, hfa, hma] at this
          exact this
        obtain ⟨S', hS'⟩ : ∃ S', S.does x a b' = S' := ⟨_, rfl⟩
        have Q24 : Hid (∀ W, Below wr.heap.size wr W → Calls Try.prog 24 #[.agg #[.int .u8 (x : Int), .int .u8 (a : Int), .int .u8 (b' : Int), .int .i8 n, .string raw], .pointer (some ⟨p, 0, none⟩)] W fun e w' => e = .returned (.tuple #[]) ∧ Sole w w' p S') := Lib.hid fun W hW => by
          rw [← hS']
          exact sole_does (HS.out.next hW) (by have := HWT.out; omega) x a b' n raw ok0 ok1 ok2
        have hO' : S'.ownI t := by rw [← hS']; exact own_does HO.out HS.out.good x a b'
        have hW' : S'.weight ≤ 2 * (k + 1) + 5 := by rw [← hS']; have := weight_does S x a b'; have := HWT.out; omega
        have HO' := Lib.hid hO'
        have HW' := Lib.hid hW'
        have hren : Hid (x % 3 = 1 → fa = true → ∀ W, Sole w W p S' → Calls Try.prog 29 #[.pointer (some ⟨p, 0, none⟩), .string nb] W fun e w' => e = .returned (.tuple #[.int .i64 (ma : Nat), .bool true]) ∧ W = w') := Lib.hid fun h1 h2 W hW => by
          have := sole_find hW nb (by omega)
          have hr := rename_found (b := b') HS.out.good h1 (by rw [hT, hna, hfa]; exact h2)
          rw [hS', hnb, hT, hna, hma] at hr
          rw [hr.1, hr.2] at this
          exact this
        have hm : (x : Int).tmod 3 = ((x % 3 : Nat) : Int) := by rw [Int.tmod_eq_emod_of_nonneg (by omega)]; omega
        have hm2 : (x : Int) % 3 = ((x % 3 : Nat) : Int) := by omega
        obtain ⟨x3, hx3⟩ : ∃ x3, x % 3 = x3 := ⟨_, rfl⟩
        rw [hx3] at hm hm2 hren
        have e1 : decide ((k : Int) < (l.length : Int)) = true := decide_eq_true (by omega)
        have e2 : decide ((k : Int) < 40) = true := decide_eq_true (by omega)
        clear hT hna hnb hfa hma hS' hO' hW' hx3 c1 c2 c3 c4 hx
        go_upto_region 11 with fail
        refine wp_region_quiet_below (by kernel_rfl) (by kernel_rfl) ?_
        repeat (go_big_quiet_step ((go_at_call 10; first | with_reducible exact q10a _ _ | with_reducible exact q10b _ _)))
        refine wpQuiet_nil ?_
        intro _ hw'
        obtain ⟨⟨dq, osq⟩, hw''⟩ := hw'
        subst hw''
        have HB5 := Lib.hid (below_regrown wr dq osq)
        have hd5 := HCW.out _ (Below.next HS.out.below HB5.out)
        generalize Sort.grow (redrawn wr dq) osq = w5 at HB5 hd5 ⊢
        obtain ⟨d0, d1, d2, d3, d4⟩ := hd5
        clear gc1 gc2 q10a q10b c0
        simp only at d0 d1 d2 d3 d4
        go_upto_region 14 with (first
          | (go_at_call 29; (with_reducible refine (Qf1.out _ HB5.out).mono ?_); rintro e w6 ⟨rfl, rfl⟩)
          | (go_at_call 24; (with_reducible refine (Q24.out _ HB5.out).mono ?_); rintro e w7 ⟨rfl, h7⟩; have H7 := Lib.hid h7; clear h7))
        clear d0 d1 d2 d3 d4
        obtain ⟨d0, d1, d2, d3, d4⟩ := HCW.out _ H7.out.below
        simp only at d0 d1 d2 d3 d4
        have htb : ∃ tb : Bool, (tb = true ∧ x3 = 1 ∧ fa = true) ∨ (tb = false ∧ x3 = 1 ∧ fa = false) ∨ (tb = false ∧ x3 ≠ 1) := by
          by_cases h1 : x3 = 1
          · cases fa with
            | true => exact ⟨true, .inl ⟨rfl, h1, rfl⟩⟩
            | false => exact ⟨false, .inr (.inl ⟨rfl, h1, rfl⟩)⟩
          · exact ⟨false, .inr (.inr ⟨rfl, h1⟩)⟩
        obtain ⟨tb, htb⟩ := htb
        have HTB := Lib.hid htb
        clear htb
        go_cut [74] from 31 to 110 (fun s74 wx => s74 = .bool tb ∧ wx = w7)
        case first =>
          rcases HTB.out with ⟨rfl, rfl, rfl⟩ | ⟨rfl, rfl, rfl⟩ | ⟨rfl, h1⟩
          · go_wp2
            go_meet
            exact ⟨rfl, rfl⟩
          · go_wp2
            go_meet
            exact ⟨rfl, rfl⟩
          · have h1' : ((x3 : Int) == 1) = false := by simp; omega
            go_wp2
            go_meet
            exact ⟨rfl, rfl⟩
        case rest =>
        obtain ⟨rfl, hw7⟩ := hcut
        subst hw7
        go_upto_if 74 with fail
        go_cut [74] from 75 to 110 (fun _ wx => wx = wc)
        case first =>
          rcases HTB.out with ⟨rfl, rfl, rfl⟩ | ⟨rfl, rfl, rfl⟩ | ⟨rfl, h1⟩
          · have hr := Lib.hid (hren.out rfl rfl)
            go_wp2_with (go_at_call 29; (with_reducible refine (hr.out _ H7.out).mono ?_); rintro e w8 ⟨rfl, rfl⟩)
            go_meet
            exact rfl
          · go_wp2
            go_meet
            exact rfl
          · go_wp2
            go_meet
            exact rfl
        case rest =>
        subst hcut
        have htt : (t != t) = false := by simp
        have hn3 : ∃ n3 : Bool, (n == 3) = n3 := ⟨_, rfl⟩
        obtain ⟨n3, hn3⟩ := hn3
        have Qs := Lib.hid (Q20.out _ p S' (by have := HW'.out; omega) H7.out)
        have HOs := Lib.hid (own_survive HO'.out c)
        have hws : (S'.survive c).weight ≤ 2 * (k + 1) + 5 := Nat.le_trans (weight_survive S' c) HW'.out
        have HWs := Lib.hid hws
        clear hws
        have Q29' := Lib.hid (Q29.out _ p S' HO'.out H7.out)
        clear d0 d1 d2 d4
        cases n3 with
        | true =>
          go_wp2_with (first
            | (go_at_call 29; (with_reducible refine Q29'.out.mono ?_); rintro e w8 ⟨rfl, rfl⟩)
            | (go_at_call 20; (with_reducible refine Qs.out.mono ?_); rintro e w9 ⟨rfl, h9⟩; have H9 := Lib.hid h9; clear h9))
          exact ⟨⟨k + 1, _, by omega, by omega, by go_num, HWs.out, HOs.out, H9.out⟩, by simp [intOf]; omega⟩
        | false =>
          go_wp2_with (first
            | (go_at_call 29; (with_reducible refine Q29'.out.mono ?_); rintro e w8 ⟨rfl, rfl⟩))
          exact ⟨⟨k + 1, _, by omega, by omega, by go_num, HW'.out, HO'.out, H7.out⟩, by simp [intOf]; omega⟩
      · have e1 : decide ((k : Int) < (l.length : Int)) = true := decide_eq_true (by omega)
        have e2 : decide ((k : Int) < 40) = false := decide_eq_false (by omega)
        have Qs := Lib.hid (Q20.out _ p S (by have := HWT.out; omega) HS.out)
        have HOs := Lib.hid (own_survive HO.out c)
        clear HWT
        rcases HOW.out with ⟨rfl, rfl⟩ | ⟨rfl, rfl⟩
        all_goals
          go_wp2_with (first
            | (go_at_call 20; (with_reducible refine Qs.out.mono ?_); rintro e w9 ⟨rfl, h9⟩; have H9 := Lib.hid h9; clear h9)
            | (go_at_call 29; (with_reducible refine (Q29.out _ _ _ HOs.out H9.out).mono ?_); rintro e w10 ⟨rfl, rfl⟩))
          go_ret
          exact ⟨rfl, H9.out.below⟩
    · have e1 : decide ((k : Int) < (l.length : Int)) = false := decide_eq_false (by omega)
      have Qs := Lib.hid (Q20.out _ p S (by have := HWT.out; omega) HS.out)
      have HOs := Lib.hid (own_survive HO.out c)
      clear HWT
      rcases HOW.out with ⟨rfl, rfl⟩ | ⟨rfl, rfl⟩
      all_goals
        go_wp2_with (first
          | (go_at_call 20; (with_reducible refine Qs.out.mono ?_); rintro e w9 ⟨rfl, h9⟩; have H9 := Lib.hid h9; clear h9)
          | (go_at_call 29; (with_reducible refine (Q29.out _ _ _ HOs.out H9.out).mono ?_); rintro e w10 ⟨rfl, rfl⟩))
        go_ret
        exact ⟨rfl, H9.out.below⟩
end Go.Proofs.Ytfjgefnklelnnaa
