/-
  Where a word's place is in a list, found by halves; a word's entry.
-/
import Derived.Test.YtfnmmnbndfdpiaaEEnts
namespace Go.Proofs.Ytfnmmnbndfdpiaa
open Go.RowKit Go.Sort

theorem risingE_lt {l : List Ent} (h : risingE l = true) {i j : Nat} (hij : i < j) (hj : j < l.length) : ltE (ent l i) (ent l j) = true := by
  induction l generalizing i j with
  | nil => simp at hj
  | cons x l ih =>
    have h' := risingE_cons.1 h
    obtain ⟨k, rfl⟩ : ∃ k, j = k + 1 := ⟨j - 1, by omega⟩
    have hk : k < l.length := by simpa using hj
    cases i with
    | zero => exact h'.1 _ (ent_mem hk)
    | succ i => exact ih h'.2 (by omega) hk

theorem place_unique {l : List Ent} {c : List UInt8} {p : Nat} (hp : p ≤ l.length) (h1 : ∀ t, t < p → Plain.less (key (ent l t)) c = true) (h2 : p < l.length → Plain.less (key (ent l p)) c = false) : placeE l c = p := by
  induction l generalizing p with
  | nil => simp at hp; rw [hp]; rfl
  | cons x l ih =>
    rw [placeE_cons]
    cases p with
    | zero =>
      have := h2 (by simp)
      rw [if_neg (by rw [show key x = key (ent (x :: l) 0) from rfl, this]; simp)]
    | succ p =>
      have h0 : Plain.less (key x) c = true := h1 0 (by omega)
      rw [if_pos h0, ih (by simpa using hp) (fun t ht => h1 (t + 1) (by omega)) (fun h => h2 (by simpa using h))]

/-- Of the words less than c. -/
theorem less_before {l : List Ent} (h : risingE l = true) {c : List UInt8} {i j : Nat} (hij : i ≤ j) (hj : j < l.length) (hl : Plain.less (key (ent l j)) c = true) : Plain.less (key (ent l i)) c = true := by
  rcases Nat.lt_or_eq_of_le hij with h1 | rfl
  · exact Plain.less_trans _ _ _ (risingE_lt h h1 hj) hl
  · exact hl
theorem not_behind {l : List Ent} (h : risingE l = true) {c : List UInt8} {i j : Nat} (hij : i ≤ j) (hj : j < l.length) (hl : Plain.less (key (ent l i)) c = false) : Plain.less (key (ent l j)) c = false := by
  cases e : Plain.less (key (ent l j)) c with
  | false => rfl
  | true => rw [less_before h hij hj e] at hl; cases hl

theorem isE_at {l : List Ent} (h : risingE l = true) (x : ByteArray) {p : Nat} (hp : placeE l x.data.toList = p) (hl : p < l.length) : isE l x.data.toList = decide (ordT (ent l p).word x = 0) := by
  subst hp
  have hb : Plain.less (key (ent l (placeE l x.data.toList))) x.data.toList = false := by
    rw [ent_lt hl]
    refine place_behind h _ _ ?_
    rw [List.drop_eq_getElem_cons hl]
    exact List.mem_cons_self ..
  rw [Bool.eq_iff_iff, place_is h, decide_eq_true_eq]
  unfold ordT
  rw [if_neg (show ¬ lessT (ent l (placeE l x.data.toList)).word x = true by rw [show lessT (ent l (placeE l x.data.toList)).word x = _ from hb]; simp)]
  constructor
  · rintro ⟨_, hk⟩
    rw [← ent_lt hl] at hk
    rw [if_neg]
    show ¬ Plain.less x.data.toList (key (ent l (placeE l x.data.toList))) = true
    rw [hk, Plain.less_irrefl]
    simp
  · intro h0
    refine ⟨hl, ?_⟩
    rw [← ent_lt hl]
    by_cases e : key (ent l (placeE l x.data.toList)) = x.data.toList
    · exact e
    · exfalso
      rcases Plain.less_total _ _ e with g | g
      · rw [hb] at g; cases g
      · rw [if_pos (show lessT x (ent l (placeE l x.data.toList)).word = true from g)] at h0
        cases h0

theorem isE_end {l : List Ent} (h : risingE l = true) (c : List UInt8) (hp : placeE l c = l.length) : isE l c = false := by
  cases e : isE l c with
  | false => rfl
  | true => obtain ⟨h1, _⟩ := (place_is h c).1 e; omega

set_option maxHeartbeats 1000000 in
set_option maxRecDepth 100000 in
theorem search_any (l : List Ent) (v : Value) (x : ByteArray) (w : World) (hr : risingE l = true) (hv : Ents w v l) (hlen : l.length ≤ 1000000) :
    Calls Try.prog 66 #[v, .string x, .func (.func 67) #[] #[]] w fun e w' => e = .returned (.tuple #[.int .i64 (placeE l x.data.toList : Nat), .bool (isE l x.data.toList)]) ∧ RowKit.Below w.heap.size w w' := by
  obtain ⟨ad, cp, rfl, hc⟩ := ents_cell hv
  have HC : Hid (∀ i, i < l.length → ∃ b o, ad = some ⟨b, o, none⟩ ∧ EntAt w b (o + i * 3) (ent l i)) := Lib.hid hc
  have HR := Lib.hid hr
  have q67 := fun e w0 => pcmp_any e x w0
  unfold enc at q67
  have Q67 := Lib.hid q67
  clear hc hr hv q67
  go_enter Try.func66, Try.ntmps66
  go_wp2
  go_loopg [9, 10] l.length (fun kx s9 s10 wr => ∃ lo hi : Nat, s9 = .int .i64 lo ∧ s10 = .int .i64 hi ∧ lo ≤ hi ∧ hi ≤ l.length ∧ hi - lo ≤ kx ∧ RowKit.Below w.heap.size w wr ∧
    Hid ((∀ t, t < lo → Plain.less (key (ent l t)) x.data.toList = true) ∧ (hi < l.length → Plain.less (key (ent l hi)) x.data.toList = false)))
  case atStart => exact ⟨0, l.length, rfl, rfl, Nat.zero_le _, Nat.le_refl _, by omega, RowKit.Below.refl _ _, Lib.hid ⟨fun t ht => by omega, fun h => by omega⟩⟩
  case round =>
    obtain ⟨lo, hi, rfl, rfl, hlh, hin, hg, hb, HI⟩ := hrel
    by_cases hlt : lo < hi
    · obtain ⟨m, hm⟩ : ∃ m, m = (lo + hi) / 2 := ⟨_, rfl⟩
      have em : ((lo : Int) + (hi : Int)) / 2 = (m : Int) := by omega
      have hlm : lo ≤ m := by omega
      have hmh : m < hi := by omega
      have hml : m < l.length := by omega
      obtain ⟨b, o, rfl, hE⟩ := HC.out m hml
      obtain ⟨h1, h2, h3⟩ := hE.below hb
      obtain ⟨y, hy⟩ : ∃ y, ent l m = y := ⟨_, rfl⟩
      rw [hy] at h1 h2 h3
      have q := Q67.out y wr
      have hl : Plain.less (key y) x.data.toList = lessT y.word x := rfl
      obtain ⟨z, hz⟩ : ∃ z, ordT y.word x = z := ⟨_, rfl⟩
      have hn := ordT_neg y.word x
      rw [hz] at q hn
      have HY := Lib.hid hy
      clear hm hy hz hE
      cases hc : lessT y.word x with
      | true =>
        have hd : decide (z < 0) = true := hn.trans hc
        rw [hc] at hl
        have HL := Lib.hid hl
        clear hn hc hl
        go_wp2_with (go_at_call 67; (with_reducible refine q.mono ?_); rintro e w1 ⟨rfl, hb1⟩)
        go_roundg (hi - (m + 1))
        case measure => omega
        case rel => exact ⟨m + 1, hi, by go_num, rfl, by omega, hin, Nat.le_refl _, Below.next hb hb1, Lib.hid ⟨fun t ht => less_before HR.out (show t ≤ m by omega) hml (by rw [HY.out]; exact HL.out), HI.out.2⟩⟩
      | false =>
        have hd : decide (z < 0) = false := hn.trans hc
        rw [hc] at hl
        have HL := Lib.hid hl
        clear hn hc hl
        go_wp2_with (go_at_call 67; (with_reducible refine q.mono ?_); rintro e w1 ⟨rfl, hb1⟩)
        go_roundg (m - lo)
        case measure => omega
        case rel => exact ⟨lo, m, rfl, rfl, hlm, by omega, Nat.le_refl _, Below.next hb hb1, Lib.hid ⟨HI.out.1, fun _ => by rw [HY.out]; exact HL.out⟩⟩
    · obtain rfl : lo = hi := by omega
      have hp : placeE l x.data.toList = lo := place_unique hin HI.out.1 HI.out.2
      by_cases hn : lo < l.length
      · have hnz : decide ((lo : Int) < (l.length : Int)) = true := decide_eq_true (by omega)
        have HE := Lib.hid (isE_at HR.out x hp hn)
        have HP := Lib.hid hp
        obtain ⟨b, o, rfl, hE⟩ := HC.out lo hn
        obtain ⟨h1, h2, h3⟩ := hE.below hb
        obtain ⟨y, hy⟩ : ∃ y, ent l lo = y := ⟨_, rfl⟩
        rw [hy] at h1 h2 h3 HE
        have q := Q67.out y wr
        obtain ⟨z, hz⟩ : ∃ z, ordT y.word x = z := ⟨_, rfl⟩
        rw [hz] at q HE
        clear hp hy hz hE
        go_wp2_with (go_at_call 67; (with_reducible refine q.mono ?_); rintro e w1 ⟨rfl, hb1⟩)
        go_ret2
        exact ⟨by rw [HP.out, HE.out]; rfl, Below.next hb hb1⟩
      · have hnz : decide ((lo : Int) < (l.length : Int)) = false := decide_eq_false (by omega)
        have HE := Lib.hid (isE_end HR.out x.data.toList (by omega))
        have HP := Lib.hid hp
        clear hp
        go_wp2
        go_ret2
        exact ⟨by rw [HP.out, HE.out]; rfl, hb⟩

theorem place_any (l : List Ent) (v : Value) (x : ByteArray) (w : World) (hr : risingE l = true) (hv : Ents w v l) (hlen : l.length ≤ 1000000) :
    Calls Try.prog 41 #[v, .string x] w fun e w' => e = .returned (.tuple #[.int .i64 (placeE l x.data.toList : Nat), .bool (isE l x.data.toList)]) ∧ RowKit.Below w.heap.size w w' := by
  have q := search_any l v x w hr hv hlen
  obtain ⟨p, hp⟩ : ∃ p, placeE l x.data.toList = p := ⟨_, rfl⟩
  obtain ⟨r, hr'⟩ : ∃ r, isE l x.data.toList = r := ⟨_, rfl⟩
  rw [hp, hr'] at q ⊢
  obtain ⟨ad, c, rfl, _⟩ := hv
  clear hp hr' hr
  go_enter Try.func41, Try.ntmps41
  go_wp2_with (go_at_call 66; (with_reducible refine q.mono ?_); rintro e w1 ⟨rfl, hb1⟩)
  go_ret2
  exact ⟨rfl, hb1⟩
end Go.Proofs.Ytfnmmnbndfdpiaa
