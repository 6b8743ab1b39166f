/-
  The last entry of each word, by rising words: the library's Clone, Reverse, stable sort and CompactFunc at entries.
-/
import Derived.Test.YtfnmmnbndfdpiaaECompact2
import Derived.Test.YtfnmmnbndfdpiaaEOne
namespace Go.Proofs.Ytfnmmnbndfdpiaa
open Go.RowKit Go.Sort Go.Lib Go.Shelf

theorem enc_len (x : Ent) : (enc x).length = 3 := rfl
theorem enc_one (x : Ent) : ∀ v ∈ enc x, v.oneCell' = true := fun v hv => by
  simp [enc] at hv
  rcases hv with rfl | rfl | rfl <;> rfl

theorem holdsK_of_owns {W : World} {base g cap : Nat} {l : List Ent} (h : W.ownsRow base 24 3 (.slice (some ⟨g, 0, none⟩) l.length cap) l.length (ents l)) : HoldsK enc 3 W g 0 l.toArray := by
  intro t ht
  rw [size_flatK] at ht
  have ht' : t < l.length * 3 := by simpa using ht
  rw [get_flatK _ _ _ _ ht, Nat.zero_add]
  refine ⟨?_, h.frozenAt t⟩
  have h1 := ents_get l (t / 3) (t % 3) (by omega) (by omega)
  rw [show t / 3 * 3 + t % 3 = t by omega] at h1
  have h2 := h.cellAt t (by omega)
  have he : l.toArray[t / 3]! = ent l (t / 3) := by rw [ent_lt (by omega)]; simp [show t / 3 < l.length by omega]
  rw [he]
  have h3 : (enc (ent l (t / 3)))[t % 3]? = some (enc (ent l (t / 3)))[t % 3]! := by
    rw [List.getElem?_eq_getElem (by rw [enc_len]; omega), getElem!_pos _ _ (by rw [enc_len]; omega)]
  rw [h3] at h1
  exact h2.trans h1

theorem reverse_any (l : List Ent) (g cap : Nat) (w : World) (hH : HoldsK enc 3 w g 0 l.toArray) (hl : l.length ≤ 1000000) :
    Calls Try.prog 60 #[.slice (some ⟨g, 0, none⟩) l.length cap] w fun e w' => e = .returned (.tuple #[]) ∧ SWK enc 3 w g 0 l.reverse.toArray w' := by
  have h := AnyQ.slices_Reverse Try.layReverse 3 Try.isAgg24 Try.sizeOf24 enc enc_len enc_one g 0 cap l.toArray w hH (by simp; omega)
  change Calls Try.prog 60 _ _ _ at h
  have hs : l.toArray.size = l.length := by simp
  rw [hs] at h
  refine h.mono ?_
  rintro e w' ⟨rfl, n, rfl⟩
  refine ⟨rfl, n, #[], ?_⟩
  unfold sortWorldK
  rw [grow_empty]
  simp

theorem reverse_nil (c : Nat) (w : World) : Calls Try.prog 60 #[.slice none 0 c] w fun e w' => e = .returned (.tuple #[]) ∧ w = w' := by
  have h := AnyQ.slices_Reverse_empty Try.layReverse none c w
  change Calls Try.prog 60 _ _ _ at h
  exact h.mono fun _ _ ⟨h1, h2⟩ => ⟨h1, h2.symm⟩

theorem eg62 : ∀ args w, (callFunc 62 args).run Try.prog w = .ok (.enter 62 args) w := enters_of Try.func62 (by kernel_rfl) rfl

theorem insertion_any (g cap : Nat) (d0 : Array Ent) (w0 : World) (R : RowK enc 3 w0 g 0 d0) (hsz : d0.size < 2305843009213693952) (a b : Nat) (d : Array Ent) (w : World) (hab : a ≤ b) (hb : b ≤ d.size) (hs : d0.size = d.size) (S : SWK enc 3 w0 g 0 d w) :
    Calls Try.prog 78 #[.slice (some ⟨g, 0, none⟩) d.size cap, .int .i64 a, .int .i64 b, .func (.func 62) #[] #[]] w (MergeEnd cfE key enc 3 w0 g 0 a b d) := by
  have h := AnyQ.insertionSortCmpFunc Try.layInsertion 3 Try.isAgg24 Try.sizeOf24 enc enc_len enc_one cfE 62 #[] g 0 cap a b d w eg62 (cmpLays g 0 d.size w) (S.holds R.hblk R.hH hs.symm) (S.lt R.hblk) hab hb (by omega)
  change Calls Try.prog 78 _ _ _ at h
  have hm := insertion_merged (lt := ltE) swoE key ltE_key d a b hab hb
  rw [← ltOf_cf] at hm
  refine h.mono ?_
  rintro e w' ⟨rfl, n, os, rfl⟩
  exact ⟨rfl, _, hm.1, hm.2, S.on R.hblk n _ os hm.2.stab.1⟩

theorem sortStable_any (d : Array Ent) (g cap : Nat) (w0 w : World) (R : RowK enc 3 w0 g 0 d) (S : SWK enc 3 w0 g 0 d w) (hsz : d.size ≤ 1000000) :
    Calls Try.prog 61 #[.slice (some ⟨g, 0, none⟩) d.size cap, .func (.func 62) #[] #[]] w fun e w' => e = .returned (.tuple #[]) ∧ ∃ d' : Array Ent, SortedIn ltE 0 d.size d' ∧ Stab key d d' ∧ SWK enc 3 w0 g 0 d' w' := by
  have e78 : ∀ args w, (callFunc 78 args).run Try.prog w = .ok (.enter 78 args) w := enters_of Try.func78 (by kernel_rfl) rfl
  have q75 := stable_any sortP enc cfE (by rw [ltOf_cf]; exact swoE) key (by rw [ltOf_cf]; exact ltE_key) 62 #[] eg62 g 0 cap d d w0 w (cmpLays g 0 d.size w0) R rfl S (by omega) e78
    (fun a b dk wk h1 h2 h3 h4 => insertion_any g cap d w0 R (by omega) a b dk wk h1 h2 h3 h4)
  obtain ⟨n, hn⟩ : ∃ n, d.size = n := ⟨_, rfl⟩
  rw [hn] at q75 ⊢
  clear hn R S hsz e78
  go_enter Try.func61, Try.ntmps61
  go_wp2_with (go_at_call 75; (with_reducible refine q75.mono ?_); rintro e w1 ⟨rfl, d', h1, h2, h3⟩)
  go_end0
  rw [ltOf_cf] at h1
  exact ⟨rfl, d', h1, h2.stab, h3⟩

theorem insertion_nil (c : Nat) (w : World) : Calls Try.prog 78 #[.slice none 0 c, .int .i64 0, .int .i64 0, .func (.func 62) #[] #[]] w fun e w' => e = .returned (.tuple #[]) ∧ w = w' := by
  go_enter Try.func78, Try.ntmps78
  go_wp2
  go_loop [8] (fun s8 => s8 = .int .i64 1) (fun _ => 0)
  case atStart => rfl
  case round =>
    subst hrel
    go_wp2
    go_end0
    exact ⟨rfl, rfl⟩

theorem stable_nil (c : Nat) (w : World) : Calls Try.prog 75 #[.slice none 0 c, .int .i64 0, .func (.func 62) #[] #[]] w fun e w' => e = .returned (.tuple #[]) ∧ w = w' := by
  have q78 := fun w0 => insertion_nil c w0
  go_enter Try.func75, Try.ntmps75
  go_wp2
  go_loop [7, 8] (fun s7 s8 => s7 = .int .i64 0 ∧ s8 = .int .i64 20) (fun _ _ => 0)
  case atStart => exact ⟨rfl, rfl⟩
  case round =>
    obtain ⟨rfl, rfl⟩ := hrel
    go_wp2_with (go_at_call 78; (with_reducible refine (q78 _).mono ?_); rintro e w1 ⟨rfl, rfl⟩)
    go_loop [6] (fun s6 => s6 = .int .i64 20) (fun _ => 0)
    case atStart => rfl
    case round =>
      subst hrel
      go_wp2
      go_end0
      exact ⟨rfl, rfl⟩

theorem sortStable_nil (c : Nat) (w : World) : Calls Try.prog 61 #[.slice none 0 c, .func (.func 62) #[] #[]] w fun e w' => e = .returned (.tuple #[]) ∧ w = w' := by
  have q75 := fun w0 => stable_nil c w0
  go_enter Try.func61, Try.ntmps61
  go_wp2_with (go_at_call 75; (with_reducible refine (q75 _).mono ?_); rintro e w1 ⟨rfl, rfl⟩)
  go_end0
  exact ⟨rfl, rfl⟩

theorem compact_nil (c : Nat) (w : World) : Calls Try.prog 64 #[.slice none 0 c, .func (.func 65) #[] #[]] w fun e w' => e = .returned (.slice none 0 c) ∧ w = w' := by
  go_enter Try.func64, Try.ntmps64
  go_wp2
  go_ret
  exact ⟨rfl, rfl⟩

set_option maxRecDepth 100000 in
theorem eclone_any (l : List Ent) (v : Value) (w : World) (hv : Ents w v l) (hl : l.length ≤ 1000000) :
    Calls Try.prog 59 #[v] w fun e w' => ∃ v', e = .returned v' ∧ w'.ownsRow w.heap.size 24 3 v' l.length (ents l) ∧ RowKit.Below w.heap.size w w' := by
  obtain ⟨ad, c, rfl, hx⟩ := id hv
  cases ad with
  | none =>
    have h0 : l = [] := by
      cases l with
      | nil => rfl
      | cons y B =>
        obtain ⟨b, o, h, _⟩ := hx 0 (by simp)
        cases h
    subst h0
    have h := AnyE.slices_Clone_nil Try.layClone 0 c w
    change Calls Try.prog 59 _ _ _ at h
    refine h.mono ?_
    rintro e w' ⟨rfl, rfl⟩
    exact ⟨_, rfl, ownsE_nil _ _, RowKit.Below.refl _ _⟩
  | some a =>
    have HV := Lib.hid (ents_alloc' (o := .cells #[] 24) hv)
    have q37 := fun w0 => Lib.run_eql_slice_nil (P := Try.prog) w0 _ _ (some a) l.length c 0 0 Try.underlying37
    clear hx hv
    go_enter Try.func59, Try.ntmps59
    go_wp2_with (at_builtin; refine wpList_append_ents rfl _ _ rfl rfl w.heap.size _ _ [] l rfl rfl (World.ownsRow_made w #[] 0 (Nat.le_refl _) (Nat.zero_le _) rfl) HV.out (by simp; omega) (by simp) ?_; intro v' w' o1 g1)
    go_ret
    refine ⟨v', rfl, by simpa using o1, ?_⟩
    exact (below_alloc w _).grown g1 (by simp) (fun k hk => by
      have hk2 : some w.heap.size = some k := hk
      injection hk2 with h
      omega)

theorem below_swk {enc' : Ent → List Value} {w0 w1 W : World} {g B : Nat} {d : Array Ent} (hB : B ≤ g) (hb : RowKit.Below B w0 w1) (hBw : B ≤ w1.heap.size) (S : SWK enc' 3 w1 g 0 d W) (_hg : g < w1.heap.size) : RowKit.Below B w0 W := by
  obtain ⟨n, os, rfl⟩ := S
  unfold sortWorldK
  have h1 : RowKit.Below B w0 (putRowK enc' 3 (Sort.ahead w1 n) g 0 d) := by
    refine hb.trans ⟨rfl, rfl, rfl, by rw [size_putRowK]; exact Nat.le_refl _, fun k hk => ?_⟩
    show (w1.heap.modify g _)[k]? = _
    rw [Array.getElem?_modify, if_neg (by omega)]
  refine h1.trans ?_
  have h2 := below_regrown (putRowK enc' 3 (Sort.ahead w1 n) g 0 d) (putRowK enc' 3 (Sort.ahead w1 n) g 0 d).drawn os
  exact h2.mono (by rw [size_putRowK]; exact hBw)

set_option maxHeartbeats 1000000 in
set_option maxRecDepth 100000 in
theorem lasts_any (l : List Ent) (v : Value) (w : World) (hv : Ents w v l) (hl : l.length ≤ 1000000) :
    Calls Try.prog 40 #[v] w fun e w' => ∃ v', e = .returned v' ∧ RowE w' v' (lastsT l) ∧ (∀ a n c, v' = .slice (some a) n c → w.heap.size ≤ a.block) ∧ RowKit.Below w.heap.size w w' := by
  have q59 := eclone_any l v w hv hl
  have q60 := fun c w0 => reverse_nil c w0
  have q61 := fun c w0 => sortStable_nil c w0
  have q64 := fun c w0 => compact_nil c w0
  obtain ⟨ad, c, rfl, _⟩ := id hv
  obtain ⟨n, hn⟩ : ∃ n, l.length = n := ⟨_, rfl⟩
  have HN := Lib.hid hn
  clear hv
  rw [hn] at hl q59 ⊢
  clear hn
  go_enter Try.func40, Try.ntmps40
  go_wp2_with (go_at_call 59; (with_reducible refine q59.mono ?_); rintro e w1 ⟨v1, rfl, o1, hb1⟩)
  rcases o1.2 with ⟨rfl, h0⟩ | ⟨g, cap, cur, rfl, hg, hcur, hcap, hcm, _⟩
  · have h0' : l = [] := by
      have := HN.out
      exact List.length_eq_zero_iff.1 (by omega)
    have HL : Hid (lastsT l = []) := Lib.hid (by rw [h0']; rfl)
    clear o1 h0 h0'
    go_wp2_with (first
      | (go_at_call 60; (with_reducible refine (q60 _ _).mono ?_); rintro e w2 ⟨rfl, rfl⟩)
      | (go_at_call 61; (with_reducible refine (q61 _ _).mono ?_); rintro e w3 ⟨rfl, rfl⟩)
      | (go_at_call 64; (with_reducible refine (q64 _ _).mono ?_); rintro e w4 ⟨rfl, rfl⟩))
    go_ret
    rw [HL.out]
    exact ⟨_, rfl, rowE_nil _, (fun a n c h => by cases h), hb1⟩
  · have hgw : g < w1.heap.size := (Array.getElem?_eq_some_iff.1 hcur).1
    have hnn := HN.out
    have hH : HoldsK enc 3 w1 g 0 l.toArray := holdsK_of_owns (by rw [hnn]; exact o1)
    have p60 := reverse_any l g cap w1 hH (by omega)
    rw [hnn] at p60
    have HCM : Hid (cap ≤ maxLen) := Lib.hid hcm
    have hbw := hb1.size
    have HH := Lib.hid hH
    clear q60 q61 q64 o1 hcur hcm hnn hH
    go_wp2_with (go_at_call 60; (with_reducible refine p60.mono ?_); rintro e w2 ⟨rfl, S2⟩)
    have hb2 := below_swk hg hb1 hbw S2 hgw
    have hsz : l.reverse.toArray.size = n := by simp; exact HN.out
    have hgw2 : g < w2.heap.size := S2.lt hgw
    have hbw2 := hb2.size
    have hH2 := S2.holds hgw HH.out (by simp)
    have R2 : RowK enc 3 w2 g 0 l.reverse.toArray := ⟨enc_len, enc_one, hH2, hgw2⟩
    have p61 := sortStable_any l.reverse.toArray g cap w2 w2 R2 (SWK.start hH2) (by rw [hsz]; exact hl)
    rw [hsz] at p61
    have HSZ := Lib.hid hsz
    have HB2 := Lib.hid hb2
    have HH2 := Lib.hid hH2
    clear p60 S2 hsz hb2 hH2 R2
    go_wp2_with (go_at_call 61; (with_reducible refine p61.mono ?_); rintro e w3 ⟨rfl, d', hs, hst, S3⟩)
    have hb3 := below_swk hg HB2.out hbw2 S3 hgw2
    have hd' : d'.size = n := by rw [hst.1, HSZ.out]
    have hrow := rowW_of_holds (S3.holds hgw2 HH2.out hst.1)
    have hl' : d'.toList.length = n := by simpa using hd'
    have p64 := compact_any d'.toList g cap w.heap.size w w3 hg hb3.size hb3 hrow (by omega) (by omega)
    rw [hl', once_lasts l d' (by rw [hd']; exact hs) hst] at p64
    have hll := lastsT_length l
    have hlc : (lastsT l).length ≤ cap := by have := HN.out; omega
    have HLL := Lib.hid hlc
    clear p61 S3 hb3 hd' hrow hl' hll hlc hs hst
    go_wp2_with (go_at_call 64; (with_reducible refine p64.mono ?_); rintro e w4 ⟨rfl, hr4, hb4⟩)
    go_ret
    exact ⟨_, rfl, ⟨_, _, rfl, HLL.out, by have := HCM.out; unfold maxLen at this; exact this, hr4.ents⟩, (fun a n c h => by cases h; exact hg), hb4⟩
end Go.Proofs.Ytfnmmnbndfdpiaa
