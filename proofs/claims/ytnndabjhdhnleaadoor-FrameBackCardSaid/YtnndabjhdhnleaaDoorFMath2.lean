/-
  Frames, as plain functions of bytes: what is put is had, and what is had is put just so; rows of frames, cut anywhere; bytes ahead and behind; a turned byte.
-/
import Derived.Test.YtnndabjhdhnleaaDoorFMath
namespace Go.Proofs.YtnndabjhdhnleaaDoor

theorem ex_list (s : ByteArray) (i j : Nat) : (s.extract i j).data.toList = (s.data.toList.drop i).take (j - i) := ba_extract s i j

theorem frameOf_list (p : ByteArray) : (frameOf p).data.toList = Plain.enc p.size ++ p.data.toList ++ Plain.four (Plain.sum (headed p).data.toList) := by
  unfold frameOf
  rw [sealed_list]
  unfold headed
  rw [ba_append]

theorem frameOf_size (p : ByteArray) : (frameOf p).size = Plain.size p.size + p.size + 4 := by
  rw [← ba_length, frameOf_list, List.length_append, List.length_append, Plain.enc_length, ba_length, Plain.four_length]

/-- Bytes ahead move what stands behind them. -/
theorem get_move (u s : List UInt8) (n : Nat) (hn : n < s.length) :
    Plain.get (u ++ s) ((u.length + n : Nat) : Int) = ((Plain.get s n).1, (u.length : Int) + (Plain.get s n).2.1, (Plain.get s n).2.2) := by
  have e : (u ++ s).drop (u.length + n) = s.drop n := by simp [List.drop_append]
  rw [Plain.get_at (by rw [List.length_append]; omega), Plain.get_at hn, e]
  simp only [Prod.mk.injEq, true_and, and_true]
  omega

theorem extract_move (u s : ByteArray) (i j : Nat) : (u ++ s).extract (u.size + i) (u.size + j) = s.extract i j := by
  apply ba_ext
  have hd : ∀ (l m : List UInt8), (l ++ m).drop (l.length + i) = m.drop i := fun l m => by simp [List.drop_append]
  have := hd u.data.toList s.data.toList
  rw [ba_length] at this
  rw [ex_list, ex_list, ba_append, this, show u.size + j - (u.size + i) = j - i by omega]

theorem fget_move (u s : ByteArray) (n : Nat) (hn : n ≤ s.size) : fget (u ++ s) ((u.size + n : Nat) : Int) = ((fget s n).1, (u.size : Int) + (fget s n).2.1, (fget s n).2.2) := by
  have hsz : (u ++ s).size = u.size + s.size := ba_size_append u s
  by_cases h1 : n = s.size
  · subst h1
    rw [fget_end rfl, fget_end (by rw [hsz])]
    simp
  have hlt : n < s.size := by omega
  have hg := get_move u.data.toList s.data.toList n (by rw [ba_length]; exact hlt)
  rw [← ba_append, ba_length] at hg
  obtain ⟨⟨N, F, E⟩, hr⟩ : ∃ r, Plain.get s.data.toList (n : Int) = r := ⟨_, rfl⟩
  rw [hr] at hg
  dsimp only at hg
  have a0 : (0 : Int) ≤ (n : Int) := by omega
  have a1 : (n : Int) < (s.size : Int) := by omega
  have b0 : (0 : Int) ≤ ((u.size + n : Nat) : Int) := by omega
  have b1 : ((u.size + n : Nat) : Int) < ((u ++ s).size : Int) := by rw [hsz]; omega
  by_cases he : E = 0
  · subst he
    obtain ⟨k, v, hk, hF, hv, hkv, _⟩ := Plain.get_ok (s := s.data.toList) (p := (n : Int)) (by rw [hr])
    rw [hr] at hF
    dsimp only at hF
    obtain rfl : k = n := by omega
    subst hF
    have hF2 : ((u.size : Int) + ((k + v : Nat) : Int)).toNat = u.size + (k + v) := by omega
    by_cases hf : fits N = true
    · by_cases hs : s.size < k + v + N + 4
      · rw [fget_short a0 a1 hr hf (by rw [Int.toNat_natCast]; exact hs), fget_short b0 b1 hg hf (by rw [hF2, hsz]; omega)]
        simp
      · have hx : (u ++ s).extract (u.size + k) (u.size + (k + v) + N + 4) = s.extract k (k + v + N + 4) := by
          rw [show u.size + (k + v) + N + 4 = u.size + (k + v + N + 4) by omega, extract_move]
        by_cases hb : isSeal (s.extract k (k + v + N + 4)) = true
        · rw [fget_ok a0 a1 hr hf (by rw [Int.toNat_natCast]; exact hs) (by rw [Int.toNat_natCast, Int.toNat_natCast]; exact hb), fget_ok b0 b1 hg hf (by rw [hF2, hsz]; omega) (by rw [hF2, Int.toNat_natCast, hx]; exact hb), hF2]
          rw [Int.toNat_natCast, show u.size + (k + v) + N = u.size + (k + v + N) by omega, extract_move]
          simp only [Prod.mk.injEq, true_and, and_true]
          omega
        · have hb' : isSeal (s.extract k (k + v + N + 4)) = false := by simpa using hb
          rw [fget_sum a0 a1 hr hf (by rw [Int.toNat_natCast]; exact hs) (by rw [Int.toNat_natCast, Int.toNat_natCast]; exact hb'), fget_sum b0 b1 hg hf (by rw [hF2, hsz]; omega) (by rw [hF2, Int.toNat_natCast, hx]; exact hb')]
          simp
    · have hf' : fits N = false := by simpa using hf
      rw [fget_long a0 a1 hr hf', fget_long b0 b1 hg hf']
      simp
  · rw [fget_num a0 a1 hr he, fget_num b0 b1 hg he]
    simp

/-- A frame stands where its bytes do, whatever is behind it. -/
theorem fget_frame (p r : ByteArray) (h : fits p.size = true) : fget (frameOf p ++ r) 0 = (p, ((frameOf p).size : Int), 0) := by
  obtain ⟨h1, h2⟩ := fits_true h
  have hu := Plain.size_bounds (n := p.size) (by omega)
  have hsz : (frameOf p ++ r).size = (frameOf p).size + r.size := ba_size_append _ _
  have hfs := frameOf_size p
  have hl : (frameOf p ++ r).data.toList = Plain.enc p.size ++ (p.data.toList ++ Plain.four (Plain.sum (headed p).data.toList) ++ r.data.toList) := by
    rw [ba_append, frameOf_list]; simp
  have hg : Plain.get (frameOf p ++ r).data.toList 0 = (p.size, ((Plain.size p.size : Nat) : Int), 0) := by
    have := Plain.get_at (s := (frameOf p ++ r).data.toList) (k := 0) (by rw [ba_length]; omega)
    rw [show ((0 : Nat) : Int) = 0 from rfl, List.drop_zero, hl, Plain.getL_enc (by omega)] at this
    rw [hl, this]
    simp
  have hx : (frameOf p ++ r).extract 0 (Plain.size p.size + p.size + 4) = frameOf p := by
    apply ba_ext
    rw [ex_list, ba_append, List.drop_zero, Nat.sub_zero, ← hfs, ← ba_length (frameOf p), List.take_left]
  rw [fget_ok (by omega) (by omega) hg h (by rw [Int.toNat_natCast]; omega) (by rw [Int.toNat_natCast]; show isSeal (ByteArray.extract _ 0 _) = true; rw [hx]; exact isSeal_sealed _)]
  rw [Int.toNat_natCast, hfs]
  simp only [Prod.mk.injEq, and_true]
  apply ba_ext
  rw [ex_list, hl, ← Plain.enc_length p.size, List.drop_left, Nat.add_sub_cancel_left, List.append_assoc, ← ba_length p, List.take_left]

/-- What is had is put just so. -/
theorem stands_frame {s : ByteArray} {a : Int} {p : ByteArray} {next : Int} (h : Stands s a p next) : s.extract a.toNat next.toNat = frameOf p := by
  obtain ⟨k, u, rfl, _, hu, hf, hs, hb, hp, rfl, henc⟩ := h.it
  rw [Int.toNat_natCast, Int.toNat_natCast]
  obtain ⟨X, hX⟩ : ∃ X, s.extract k (k + u + p.size + 4) = X := ⟨_, rfl⟩
  have hXs : X.size = u + p.size + 4 := by rw [← hX, ByteArray.size_extract]; omega
  obtain ⟨e1, e2⟩ := body_last X (by omega)
  have hXe : X = body X ++ last X := ba_ext (by rw [ba_append]; exact e1)
  have hbody : body X = headed p := by
    apply ba_ext
    unfold body headed
    rw [hXs, ex_list, ba_append, ← hX, ex_list]
    rw [List.drop_zero, Nat.sub_zero, List.take_take, show min (u + p.size + 4 - 4) (k + u + p.size + 4 - k) = u + p.size by omega]
    show _ = Plain.enc p.size ++ p.data.toList
    rw [← henc]
    conv => rhs; rw [hp, ex_list, Nat.add_sub_cancel_left, ← List.drop_drop]
    rw [← List.take_append_drop u ((s.data.toList.drop k).take (u + p.size)), List.take_take, Nat.min_eq_left (by omega), List.drop_take, Nat.add_sub_cancel_left]
  rw [hX] at hb ⊢
  have := (seal_split (body X) (last X) (by rw [← ba_length]; exact e2)).1
  rw [← hXe, hb] at this
  have hs' := of_decide_eq_true this.symm
  rw [← hs', hbody]
  rfl

/-- The same bytes, up to its end: the same frame. -/
theorem fget_prefix {s t : ByteArray} {a : Int} {p : ByteArray} {next : Int} (h : Stands s a p next) (ht : next ≤ (t.size : Int)) (hst : t.extract 0 next.toNat = s.extract 0 next.toNat) : fget t a = (p, next, 0) := by
  have hfr := stands_frame h
  have hn := stands_next h
  have hit := h.it
  obtain ⟨k, u, rfl, _, hu, hf, hs, hb, hp, hnx, henc⟩ := hit
  obtain ⟨N, hN⟩ : ∃ N : Nat, next = (N : Int) := ⟨next.toNat, by omega⟩
  subst hN
  rw [Int.toNat_natCast] at hst hfr
  rw [Int.toNat_natCast] at hfr
  have hNk : k ≤ N := by omega
  have hNt : N ≤ t.size := by omega
  have e1 : t.extract k N = frameOf p := by
    rw [← hfr]
    apply ba_ext
    have := congrArg (fun x : ByteArray => x.data.toList.drop k) hst
    simp only [ex_list, List.drop_zero, Nat.sub_zero, List.drop_take] at this
    rw [ex_list, ex_list]
    exact this
  have et : t = t.extract 0 k ++ (frameOf p ++ t.extract N t.size) := by
    apply ba_ext
    rw [ba_append, ba_append, ← e1, ex_list, ex_list, ex_list, List.drop_zero, Nat.sub_zero]
    have h1 : (t.data.toList.drop k).take (N - k) ++ (t.data.toList.drop N).take (t.size - N) = t.data.toList.drop k := by
      conv => rhs; rw [← List.take_append_drop (N - k) (t.data.toList.drop k), List.drop_drop, show k + (N - k) = N by omega]
      rw [List.take_of_length_le (l := t.data.toList.drop N) (by rw [List.length_drop, ba_length]; omega)]
    rw [h1, List.take_append_drop]
  have hks : (t.extract 0 k).size = k := by rw [ByteArray.size_extract]; omega
  have hm := fget_move (t.extract 0 k) (frameOf p ++ t.extract N t.size) 0 (Nat.zero_le _)
  rw [← et, hks] at hm
  have h0 := fget_frame p (t.extract N t.size) hf
  rw [show ((0 : Nat) : Int) = 0 from rfl, h0] at hm
  rw [show ((k + 0 : Nat) : Int) = (k : Int) by omega] at hm
  rw [hm]
  have hsz : (frameOf p).size = N - k := by rw [← hfr, ByteArray.size_extract]; omega
  rw [hsz]
  simp only [Prod.mk.injEq, true_and, and_true]
  omega

/-- A frame that is cut is short. -/
theorem fget_cut (p : ByteArray) (h : fits p.size = true) (k : Nat) (h0 : 0 < k) (hk : k < (frameOf p).size) : fget ((frameOf p).extract 0 k) 0 = (⟨#[]⟩, 0, 3) := by
  obtain ⟨h1, h2⟩ := fits_true h
  have hu := Plain.size_bounds (n := p.size) (by omega)
  have hfs := frameOf_size p
  have hsz : ((frameOf p).extract 0 k).size = k := by rw [ByteArray.size_extract]; omega
  have hl : ((frameOf p).extract 0 k).data.toList = (Plain.enc p.size ++ (p.data.toList ++ Plain.four (Plain.sum (headed p).data.toList))).take k := by
    rw [ex_list, frameOf_list]; simp
  have hat := Plain.get_at (s := ((frameOf p).extract 0 k).data.toList) (k := 0) (by rw [ba_length]; omega)
  rw [show ((0 : Nat) : Int) = 0 from rfl, List.drop_zero] at hat
  by_cases hc : k < Plain.size p.size
  · have hcut : Plain.get ((frameOf p).extract 0 k).data.toList 0 = (0, 0, 3) := by
      rw [hat, hl, List.take_append_of_le_length (by rw [Plain.enc_length]; omega), Plain.getL_cut (by omega) hc]
      simp
    rw [fget_num (by omega) (by omega) hcut (by simp)]
  · have hget : Plain.get ((frameOf p).extract 0 k).data.toList 0 = (p.size, ((Plain.size p.size : Nat) : Int), 0) := by
      rw [hat, hl, List.take_append, List.take_of_length_le (by rw [Plain.enc_length]; omega), Plain.getL_enc (by omega)]
      simp
    rw [fget_short (by omega) (by omega) hget h (by rw [Int.toNat_natCast]; omega)]

/-! ### Rows of frames -/

/-- The bytes of frames, one behind the other. -/
def frs (l : List ByteArray) : List UInt8 := l.flatMap fun p => (frameOf p).data.toList

theorem frs_append (a b : List ByteArray) : frs (a ++ b) = frs a ++ frs b := by simp [frs]
theorem frs_cons (p : ByteArray) (l : List ByteArray) : frs (p :: l) = (frameOf p).data.toList ++ frs l := by simp [frs]
theorem frs_one (p : ByteArray) : frs [p] = (frameOf p).data.toList := by simp [frs]

/-- What stands behind frames, in their place. -/
theorem fget_behind (s r : ByteArray) (a : List ByteArray) (hs : s.data.toList = frs a ++ r.data.toList) : fget s ((frs a).length : Int) = ((fget r 0).1, ((frs a).length : Int) + (fget r 0).2.1, (fget r 0).2.2) := by
  have e : s = ⟨(frs a).toArray⟩ ++ r := ba_ext (by rw [hs, ba_append])
  have hsz : (⟨(frs a).toArray⟩ : ByteArray).size = (frs a).length := by rw [← ba_length]
  have := fget_move ⟨(frs a).toArray⟩ r 0 (Nat.zero_le _)
  rw [← e, hsz] at this
  exact this

theorem fget_at_frame (s : ByteArray) (a b : List ByteArray) (p : ByteArray) (r : List UInt8) (hp : fits p.size = true) (hs : s.data.toList = frs (a ++ p :: b) ++ r) :
    fget s ((frs a).length : Int) = (p, ((frs (a ++ [p])).length : Int), 0) := by
  have h1 := fget_behind s (frameOf p ++ ⟨(frs b ++ r).toArray⟩) a (by rw [hs, frs_append, frs_cons, ba_append]; simp)
  rw [h1, fget_frame p _ hp, frs_append, frs_one, List.length_append, ba_length]
  simp

theorem fall_frames (s : ByteArray) (r : List UInt8) : ∀ (b a acc : List ByteArray) (k : Nat), (∀ p ∈ b, fits p.size = true) → s.data.toList = frs (a ++ b) ++ r →
    fallFrom s (b.length + k) acc ((frs a).length : Int) = fallFrom s k (acc ++ b) ((frs (a ++ b)).length : Int)
  | [], a, acc, k, _, _ => by simp
  | p :: b, a, acc, k, h, hs => by
    have hp := h p (by simp)
    have hg := fget_at_frame s a b p r hp hs
    rw [List.length_cons, show b.length + 1 + k = (b.length + k) + 1 by omega, fallFrom_ok (by rw [hg]), hg]
    have e : a ++ p :: b = (a ++ [p]) ++ b := by simp
    rw [e] at hs ⊢
    rw [fall_frames s r b (a ++ [p]) (acc ++ [p]) k (fun q hq => h q (by simp [hq])) hs]
    simp

theorem frs_length_le (l : List ByteArray) : l.length ≤ (frs l).length := by
  induction l with
  | nil => simp
  | cons p l ih =>
    rw [frs_cons, List.length_append, ba_length, frameOf_size, List.length_cons]
    omega

theorem frs_length_most (l : List ByteArray) (h : ∀ p ∈ l, fits p.size = true) : (frs l).length ≤ 313 * l.length := by
  induction l with
  | nil => simp [frs]
  | cons p l ih =>
    have hp := fits_true (h p (by simp))
    have hu := Plain.size_bounds (n := p.size) (by omega)
    have := ih (fun q hq => h q (by simp [hq]))
    rw [frs_cons, List.length_append, ba_length, frameOf_size, List.length_cons]
    omega

theorem fall_whole (s : ByteArray) (l : List ByteArray) (h : ∀ p ∈ l, fits p.size = true) (hs : s.data.toList = frs l) : fall s = (l, (s.size : Int), 0) := by
  have hsz : s.size = (frs l).length := by rw [← hs, ba_length]
  have hle := frs_length_le l
  have h1 := fall_frames s [] l [] [] (s.size + 1 - l.length) h (by simpa using hs)
  rw [show l.length + (s.size + 1 - l.length) = s.size + 1 by omega] at h1
  unfold fall
  simp only [List.nil_append] at h1
  rw [show ((frs []).length : Int) = 0 from rfl] at h1
  rw [h1, show s.size + 1 - l.length = (s.size - l.length) + 1 by omega, fallFrom_bad (by rw [fget_end (by rw [hsz])]; simp), fget_end (by rw [hsz]), hsz]
  simp

/-- Frames, cut within one. -/
theorem fall_cut (s : ByteArray) (a : List ByteArray) (p : ByteArray) (k : Nat) (h : ∀ q ∈ a, fits q.size = true) (hp : fits p.size = true) (h0 : 0 < k) (hk : k < (frameOf p).size)
    (hs : s.data.toList = frs a ++ ((frameOf p).data.toList.take k)) : fall s = (a, ((frs a).length : Int), 3) := by
  have hsz : s.size = (frs a).length + k := by
    rw [← ba_length, hs, List.length_append, List.length_take, ba_length]; omega
  have hle := frs_length_le a
  have h1 := fall_frames s ((frameOf p).data.toList.take k) a [] [] (s.size + 1 - a.length) h (by simpa using hs)
  rw [show a.length + (s.size + 1 - a.length) = s.size + 1 by omega] at h1
  unfold fall
  simp only [List.nil_append] at h1
  rw [show ((frs []).length : Int) = 0 from rfl] at h1
  have hg := fget_behind s ((frameOf p).extract 0 k) a (by rw [hs, ex_list, List.drop_zero, Nat.sub_zero])
  rw [fget_cut p hp k h0 hk] at hg
  rw [h1, show s.size + 1 - a.length = (s.size - a.length) + 1 by omega, fallFrom_bad (by rw [hg]; simp), hg]
  simp

/-- What All reads of any bytes is laid just so. -/
theorem fallFrom_laid (s : ByteArray) : ∀ (k : Nat) (acc : List ByteArray) (a : Nat), a ≤ s.size → frs acc = s.data.toList.take a → (∀ q ∈ acc, fits q.size = true) →
    ∃ b : Nat, (fallFrom s k acc a).2.1 = (b : Int) ∧ b ≤ s.size ∧ frs (fallFrom s k acc a).1 = s.data.toList.take b ∧ ∀ q ∈ (fallFrom s k acc a).1, fits q.size = true
  | 0, acc, a, h, hf, hq => ⟨a, rfl, h, hf, hq⟩
  | k + 1, acc, a, h, hf, hq => by
    by_cases he : (fget s a).2.2 = 0
    · rw [fallFrom_ok he]
      have hst := fget_stands he
      have hfr := stands_frame hst
      obtain ⟨j1, j2, j3, j4, j5⟩ := stands_next hst
      obtain ⟨_, _, _, _, _, hfit, _⟩ := hst.it
      obtain ⟨N, hN⟩ : ∃ N : Nat, (fget s a).2.1 = (N : Int) := ⟨(fget s a).2.1.toNat, by omega⟩
      rw [hN] at hfr j2 j3 ⊢
      rw [Int.toNat_natCast, Int.toNat_natCast] at hfr
      refine fallFrom_laid s k _ N (by omega) ?_ ?_
      · rw [frs_append, frs_one, hf, ← hfr, ex_list]
        conv => rhs; rw [show N = a + (N - a) by omega, List.take_add]
      · intro q hq'
        rcases List.mem_append.1 hq' with h' | h'
        · exact hq q h'
        · rw [List.mem_singleton.1 h']; exact hfit
    · rw [fallFrom_bad he]
      exact ⟨a, rfl, h, hf, hq⟩

theorem fall_laid (s : ByteArray) : ∃ b : Nat, (fall s).2.1 = (b : Int) ∧ b ≤ s.size ∧ frs (fall s).1 = s.data.toList.take b ∧ ∀ q ∈ (fall s).1, fits q.size = true :=
  fallFrom_laid s _ [] 0 (Nat.zero_le _) (by simp [frs]) (by simp)

/-- Bytes that are unlike in one place are not both sealed. -/
theorem seal_turned (x y : ByteArray) (i : Nat) (b : UInt8) (h4 : 4 ≤ x.size) (hi : i < x.size) (hx : isSeal x = true) (hy : y.data.toList = x.data.toList.set i b) (hb : b ≠ x[i]) : isSeal y = false := by
  cases hz : isSeal y with
  | false => rfl
  | true =>
    exfalso
    have e : Plain.sum x.data.toList = Plain.sum y.data.toList := by rw [sum_eq, sum_eq, isSeal_run x hx, isSeal_run y hz]
    have hL : x.data.toList.length = x.size := ba_length x
    obtain ⟨j, hj⟩ : ∃ j, j = min i (x.size - 4) := ⟨_, rfl⟩
    have hj1 : j ≤ i := by omega
    have hj2 : i < j + 4 := by omega
    have hj3 : j + 4 ≤ x.size := by omega
    have split : ∀ l : List UInt8, l.length = x.size → l = l.take j ++ (l.drop j).take 4 ++ l.drop (j + 4) := fun l hl => by
      rw [List.append_assoc, ← List.drop_drop, List.take_append_drop, List.take_append_drop]
    have hyl : y.data.toList.length = x.size := by rw [hy, List.length_set, hL]
    have s1 := split _ hL
    have s2 := split _ hyl
    have t1 : y.data.toList.take j = x.data.toList.take j := by rw [hy, List.take_set_of_le hj1]
    have t2 : y.data.toList.drop (j + 4) = x.data.toList.drop (j + 4) := by rw [hy, List.drop_set_of_lt (by omega)]
    rw [t1, t2] at s2
    rw [s1, s2] at e
    have e4 := (sum_four (by rw [List.length_take, List.length_drop]; omega) (by rw [List.length_take, List.length_drop]; omega)).1 e
    have hxy : x.data.toList = y.data.toList := by rw [s1, s2, e4]
    rw [hy] at hxy
    have := congrArg (fun l => l[i]?) hxy
    simp only [List.getElem?_set_self (show i < x.data.toList.length by omega)] at this
    rw [List.getElem?_eq_getElem (by omega)] at this
    exact hb (Option.some.inj this).symm
end Go.Proofs.YtnndabjhdhnleaaDoor
