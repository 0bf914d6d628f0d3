/- The statement AsciiBack: a number that is written is read as it was; letters made small, and blanks taken away, twice are as once. -/
import Derived.Test.YtbekebdgmgjpgaaDoorAscH
import Derived.Test.YtbekebdgmgjpgaaDoorAscI
import Derived.Test.YtbekebdgmgjpgaaDoorAscM
import Derived.Test.YtbekebdgmgjpgaaDoorClose
import Derived.Test.YtbekebdgmgjpgaaDoorCards
import Derived.Test.YtbekebdgmgjpgaaDoorTie
import Derived.ProofKit
import Derived.Lay
import Derived.LaidOnce
import Derived.SevenTiedAt
namespace Go.Proofs.YtbekebdgmgjpgaaDoor.Asc
open Go.RowKit Go.Shelf Go.Lib
open Go.ChangeShapes Go.WideShapes Go.ChangeAt
open Go.ChangeMaps (open_string shut_string)

theorem drop_head (p : UInt8 → Bool) (l : List UInt8) : l.dropWhile p = [] ∨ ∃ x t, l.dropWhile p = x :: t ∧ p x = false := by
  induction l with
  | nil => exact .inl rfl
  | cons a l ih =>
    rw [List.dropWhile_cons]
    cases h : p a with
    | true => rw [if_pos rfl]; exact ih
    | false => rw [if_neg (by simp)]; exact .inr ⟨a, l, rfl, h⟩
theorem trimL_idem (l : List UInt8) : trimL (trimL l) = trimL l := by
  have hdef : trimL l = List.dropWhile (([9, 32] : List UInt8).contains ·) (l.reverse.dropWhile (([9, 32] : List UInt8).contains ·)).reverse := rfl
  rcases drop_head (([9, 32] : List UInt8).contains ·) (l.reverse.dropWhile (([9, 32] : List UInt8).contains ·)).reverse with h | ⟨x, t, h, hx⟩
  · rw [hdef, h]; rfl
  · have hT : trimL l = x :: t := hdef.trans h
    have hsuf : (trimL l).reverse <+: l.reverse.dropWhile (([9, 32] : List UInt8).contains ·) := by
      have := List.dropWhile_suffix (l := (l.reverse.dropWhile (([9, 32] : List UInt8).contains ·)).reverse) (([9, 32] : List UInt8).contains ·)
      rw [← List.reverse_prefix, List.reverse_reverse] at this
      rw [hdef]; exact this
    obtain ⟨z, hz⟩ := hsuf
    obtain ⟨y, u, hy⟩ : ∃ y u, (trimL l).reverse = y :: u := by
      cases hr : (trimL l).reverse with
      | nil => rw [hT] at hr; simp at hr
      | cons y u => exact ⟨y, u, rfl⟩
    have hby : blankB y = false := by
      rw [hy] at hz
      rcases drop_head (([9, 32] : List UInt8).contains ·) l.reverse with h' | ⟨x', t', h', hx'⟩
      · rw [h'] at hz; cases hz
      · rw [h'] at hz
        have : y = x' := by injection hz
        rw [this, ← blank_mem]; exact hx'
    have := trimL_ends (trimL l) t u x y hT hy
    rw [show blankB x = false from (blank_mem x).symm.trans hx, hby] at this
    simpa using this
theorem small_small (c : UInt8) : smallB (smallB c) = smallB c := by
  have H : ∀ i : Fin 256, smallB (smallB (UInt8.ofNat i.1)) = smallB (UInt8.ofNat i.1) := by decide +kernel
  have := H ⟨c.toNat, c.toNat_lt⟩
  simpa using this
theorem low_low (s : ByteArray) : lowS (lowS s) = lowS s := by
  unfold lowS
  congr 2
  show List.map smallB (List.map smallB s.data.toList).toArray.toList = _
  rw [List.map_map]
  exact List.map_congr_left fun c _ => small_small c
theorem eq_low (s : ByteArray) : eqL s.data.toList (lowS s).data.toList = true := by
  unfold eqL lowS
  rw [decide_eq_true_eq]
  show _ = List.map smallB (List.map smallB s.data.toList).toArray.toList
  rw [List.map_map]
  exact List.map_congr_left fun c _ => (small_small c).symm
theorem dec_len (f : Nat) : ∀ u, u < 10 ^ (f + 1) → (Lib.decDigits u).length ≤ f + 1 := by
  induction f with
  | zero => intro u h; rw [Lib.decDigits_one (by omega)]; simp
  | succ f ih =>
    intro u h
    by_cases hu : u < 10
    · rw [Lib.decDigits_one hu]; simp
    · have := ih (u / 10) (by rw [Nat.pow_succ] at h; omega)
      rw [Lib.decDigits, dif_neg hu]
      simp
      omega
theorem itoa_len (n : Int) (h0 : -9223372036854775808 ≤ n) (h1 : n ≤ 9223372036854775807) : (Lib.itoa n).length ≤ 21 := by
  unfold Lib.itoa
  split
  · have := dec_len 19 n.natAbs (by omega)
    simp; omega
  · have := dec_len 19 n.toNat (by omega)
    omega
theorem hexF_len (f : Nat) : ∀ u, (hexF f u).length ≤ f := by
  induction f with
  | zero => intro u; simp [hexF]
  | succ f ih =>
    intro u
    rw [hexF]
    split
    · simp
    · have := ih (u / 16); simp; omega

set_option maxRecDepth 100000 in
set_option maxHeartbeats 4000000 in
theorem backWalk (n a b c d : Int) (s r1 r2 ls ts : ByteArray) (w : World) (hn : (n < 0) ∨ (0 ≤ n ∧ n ≤ 1000000000000000000 ∧ a = n ∧ b = 0 ∧ c = n ∧ d = 0) ∨ (1000000000000000000 < n ∧ n ≤ 1152921504606846976 ∧ c = n ∧ d = 0) ∨ 1152921504606846976 < n)
    (H0 : Hid (NumTabs w))
    (H1 : ∀ w, Hid (NumTabs w → Calls Tryd.prog 29 #[.int .i64 n] w fun e w' => e = .returned (.string r1) ∧ Below w.heap.size w w'))
    (H2 : ∀ w, Hid (Calls Tryd.prog 24 #[.string r1] w fun e w' => e = .returned (.tuple #[.int .i64 a, .int .i64 b]) ∧ Below w.heap.size w w'))
    (H3 : ∀ w, Hid (NumTabs w → Calls Tryd.prog 31 #[.int .i64 n] w fun e w' => e = .returned (.string r2) ∧ Below w.heap.size w w'))
    (H4 : ∀ w, Hid (Calls Tryd.prog 26 #[.string r2] w fun e w' => e = .returned (.tuple #[.int .i64 c, .int .i64 d]) ∧ Below w.heap.size w w'))
    (H5 : ∀ w, Hid (Calls Tryd.prog 15 #[.string s] w fun e w' => e = .returned (.string ls) ∧ Below w.heap.size w w'))
    (H6 : ∀ w, Hid (Calls Tryd.prog 15 #[.string ls] w fun e w' => e = .returned (.string ls) ∧ Below w.heap.size w w'))
    (H7 : ∀ w, Hid (Calls Tryd.prog 19 #[.string s] w fun e w' => e = .returned (.string ts) ∧ Below w.heap.size w w'))
    (H8 : ∀ w, Hid (Calls Tryd.prog 19 #[.string ts] w fun e w' => e = .returned (.string ts) ∧ Below w.heap.size w w'))
    (H9 : ∀ w, Hid (Calls Tryd.prog 17 #[.string s, .string ls] w fun e w' => e = .returned (.bool true) ∧ Below w.heap.size w w')) :
    Calls Tryd.prog 9 #[.int .i64 n, .string s] w fun e w' => e = .returned (.bool true) ∧ Below w.heap.size w w' := by
  have HN := fun n w => Lib.hid (num_any n w)
  rcases hn with hn | ⟨h1, h2, rfl, rfl, h5, rfl⟩ | ⟨h1, h2, rfl, rfl⟩ | hn
  case' inr.inl => subst h5
  all_goals
    go_enter Tryd.func9, Tryd.ntmps9
    go_wp2_with fail
    refine ((H1 _).out H0.out).mono ?_
    rintro e w1 ⟨rfl, hb1⟩
    have HB1 := Lib.hid hb1
    clear hb1
    go_wp2_with fail
    refine (H2 _).out.mono ?_
    rintro e w2 ⟨rfl, hb2⟩
    have HB2 := Lib.hid (HB1.out.trans (hb2.mono HB1.out.size))
    clear hb2
    go_wp2_with fail
    refine ((H3 _).out (H0.out.below HB2.out)).mono ?_
    rintro e w3 ⟨rfl, hb3⟩
    have HB3 := Lib.hid (HB2.out.trans (hb3.mono HB2.out.size))
    clear hb3
    go_wp2_with fail
    refine (H4 _).out.mono ?_
    rintro e w4 ⟨rfl, hb4⟩
    have HB4 := Lib.hid (HB3.out.trans (hb4.mono HB3.out.size))
    clear hb4
    go_wp2_with (go_at_call 28; refine (HN _ _).out.mono ?_; rintro e w5 ⟨rfl, rfl⟩)
    refine (H5 _).out.mono ?_
    rintro e w6 ⟨rfl, hb6⟩
    have HB6 := Lib.hid (HB4.out.trans (hb6.mono HB4.out.size))
    clear hb6
    go_wp2_with fail
    refine (H6 _).out.mono ?_
    rintro e w7 ⟨rfl, hb7⟩
    have HB7 := Lib.hid (HB6.out.trans (hb7.mono HB6.out.size))
    clear hb7
    go_wp2_with fail
    refine (H5 _).out.mono ?_
    rintro e w8 ⟨rfl, hb8⟩
    have HB8 := Lib.hid (HB7.out.trans (hb8.mono HB7.out.size))
    clear hb8
    go_wp2_with fail
    refine (H7 _).out.mono ?_
    rintro e w9 ⟨rfl, hb9⟩
    have HB9 := Lib.hid (HB8.out.trans (hb9.mono HB8.out.size))
    clear hb9
    go_wp2_with fail
    refine (H8 _).out.mono ?_
    rintro e w10 ⟨rfl, hb10⟩
    have HB10 := Lib.hid (HB9.out.trans (hb10.mono HB9.out.size))
    clear hb10
    go_wp2_with fail
    refine (H7 _).out.mono ?_
    rintro e w11 ⟨rfl, hb11⟩
    have HB11 := Lib.hid (HB10.out.trans (hb11.mono HB10.out.size))
    clear hb11
    go_wp2_with fail
    refine (H5 _).out.mono ?_
    rintro e w12 ⟨rfl, hb12⟩
    have HB12 := Lib.hid (HB11.out.trans (hb12.mono HB11.out.size))
    clear hb12
    go_wp2_with fail
    refine (H9 _).out.mono ?_
    rintro e w13 ⟨rfl, hb13⟩
    have HB13 := Lib.hid (HB12.out.trans (hb13.mono HB12.out.size))
    clear hb13
    go_wp2_with fail
    refine (knows_any _).mono ?_
    rintro e w14 ⟨rfl, hb14⟩
    have HB14 := Lib.hid (HB13.out.trans (hb14.mono HB13.out.size))
    clear hb14
    go_wp2_with fail
    go_ret
    exact ⟨rfl, HB14.out⟩

set_option maxRecDepth 100000 in
set_option maxHeartbeats 1000000 in
theorem lawBack (n : Int) (s : ByteArray) (w : World) (h0 : -9223372036854775808 ≤ n) (h1 : n ≤ 9223372036854775807) (hs : s.size ≤ 140737488355328) (ht : NumTabs w) :
    Calls Tryd.prog 9 #[.int .i64 n, .string s] w fun e w' => e = .returned (.bool true) ∧ Below w.heap.size w w' := by
  have hz1 : (⟨(Lib.itoa n).toArray⟩ : ByteArray).size ≤ 9223372036854775807 := by
    show (Lib.itoa n).toArray.size ≤ _
    rw [List.size_toArray]
    have := itoa_len n h0 h1
    omega
  have hz2 : (⟨(hexL (hexN n)).toArray⟩ : ByteArray).size ≤ 9223372036854775807 := by
    show (hexL (hexN n)).toArray.size ≤ _
    rw [List.size_toArray]
    have := hexF_len 16 (hexN n)
    unfold hexL
    omega
  have hts : (⟨(trimL s.data.toList).toArray⟩ : ByteArray).size ≤ 140737488355328 := by
    show (trimL s.data.toList).toArray.size ≤ _
    rw [List.size_toArray]
    have := trimL_le s.data.toList
    have h2 : s.data.toList.length = s.size := rfl
    omega
  have hl : (lowS s).size ≤ 9223372036854775807 := by rw [lowS_size]; omega
  refine backWalk n _ _ _ _ s ⟨(Lib.itoa n).toArray⟩ ⟨(hexL (hexN n)).toArray⟩ (lowS s) ⟨(trimL s.data.toList).toArray⟩ w ?_ ht (fun w => digits_any n h0 h1 w) (fun w => decimal_any _ w hz1) (fun w => hexDigits_any n w) (fun w => hex_any _ w hz2)
    (fun w => lower_any s w (by omega)) (fun w => ?_) (fun w => trim_any s w hs) (fun w => ?_) (fun w => ?_)
  · by_cases h : n < 0
    · exact .inl h
    · by_cases h2 : n ≤ 1000000000000000000
      · refine .inr (.inl ⟨by omega, h2, ?_, ?_, ?_, ?_⟩)
        · rw [show (⟨(Lib.itoa n).toArray⟩ : ByteArray).data.toList = Lib.itoa n from rfl, dec_read n (by omega) h2]; show ((n.toNat : Nat) : Int) = n; omega
        · rw [show (⟨(Lib.itoa n).toArray⟩ : ByteArray).data.toList = Lib.itoa n from rfl, dec_read n (by omega) h2]; rfl
        · rw [show (⟨(hexL (hexN n)).toArray⟩ : ByteArray).data.toList = hexL (hexN n) from rfl, hex_read n (by omega) (by omega)]; show ((n.toNat : Nat) : Int) = n; omega
        · rw [show (⟨(hexL (hexN n)).toArray⟩ : ByteArray).data.toList = hexL (hexN n) from rfl, hex_read n (by omega) (by omega)]; rfl
      · by_cases h3 : n ≤ 1152921504606846976
        · refine .inr (.inr (.inl ⟨by omega, h3, ?_, ?_⟩))
          · rw [show (⟨(hexL (hexN n)).toArray⟩ : ByteArray).data.toList = hexL (hexN n) from rfl, hex_read n (by omega) h3]; show ((n.toNat : Nat) : Int) = n; omega
          · rw [show (⟨(hexL (hexN n)).toArray⟩ : ByteArray).data.toList = hexL (hexN n) from rfl, hex_read n (by omega) h3]; rfl
        · exact .inr (.inr (.inr (by omega)))
  · have := lower_any (lowS s) w hl
    rw [low_low] at this
    exact this
  · have := trim_any ⟨(trimL s.data.toList).toArray⟩ w hts
    rw [show (⟨(trimL s.data.toList).toArray⟩ : ByteArray).data.toList = trimL s.data.toList from rfl, trimL_idem] at this
    exact this
  · have := equal_any s (lowS s) w (by omega)
    rw [eq_low] at this
    exact this
theorem tabs_of (W : World) (h1 : Lib.VarReads Tryd.prog W "internal/strconv.uint64pow10" Rows.laid_internal_strconv_uint64pow10) (h2 : Lib.VarReads Tryd.prog W "math/bits.deBruijn64tab" Rows.laid_math_bits_deBruijn64tab) : NumTabs W := by
  have e1 : (Rows.laid_internal_strconv_uint64pow10 : DataW Unit) = Lib.tabData .u64 Lib.pow10Tab := by kernel_rfl
  rw [e1] at h1
  have t1 := tab_of_reads (name := "internal/strconv.uint64pow10") (g := 2) (by kernel_rfl) (by kernel_rfl) Tryd.underlying122 Tryd.underlying80 (by kernel_rfl) (by kernel_rfl) h1
  have e2 : (Rows.laid_math_bits_deBruijn64tab : DataW Unit) = Lib.tabData .u8 [0, 1, 56, 2, 57, 49, 28, 3, 61, 58, 42, 50, 38, 29, 17, 4, 62, 47, 59, 36, 45, 43, 51, 22, 53, 39, 33, 30, 24, 18, 12, 5, 63, 55, 48, 27, 60, 41, 37, 16, 46, 35, 44, 21, 52, 32, 23, 11, 54, 26, 40, 15, 34, 20, 31, 10, 25, 14, 19, 9, 13, 8, 7, 6] := by kernel_rfl
  rw [e2] at h2
  have t2 := tab_of_reads (name := "math/bits.deBruijn64tab") (g := 6) (by kernel_rfl) (by kernel_rfl) Tryd.underlying138 Tryd.underlying5 (by kernel_rfl) (by kernel_rfl) h2
  exact ⟨t1, t2.cell (by kernel_rfl) 15 (by decide)⟩

set_option maxRecDepth 100000 in
theorem liftedAsciiBack (os : Os) (started : os.Started) (H : Type) (enc : TypeId × Value → H) :
    ReturnsInHanded {} Tryd.checked os 9 .any (fun w args => (Rows.asciiBackSpec.pre enc Tryd.prog Tryd.f9 [] false w args ∧ laidMetH Tryd.prog Rows.asciiBackRow.laid w) ∧ sizedMet enc Tryd.prog Tryd.f9 (OpenSpec.ofChange Rows.asciiBackSpec) false w args)
      (Rows.asciiBackSpec.post enc Tryd.prog Tryd.f9 false true false false) := by
  refine returnsInHanded_of_change_and (C := Tryd.checked) (X := fun w _ => laidMetH Tryd.prog Rows.asciiBackRow.laid w) (fun _ _ _ hh h => h.of_heap hh) Cls.own started (by kernel_rfl) Tryd.func9
    (ChangeSpec.witness_shaped (enc := enc) (C := Tryd.checked) (os := os) (X := fun w _ => laidMetH Tryd.prog Rows.asciiBackRow.laid w) false (World.laidAll Tryd.prog os Rows.asciiBackRow.laid) #[.int .i64 0, .string ⟨#[]⟩] 8 (World.laidAll_os _ _ _)
      (World.shaped_of_ZipB (by kernel_rfl) (by kernel_rfl)) (by kernel_rfl) (by kernel_rfl) (by kernel_rfl)
      (by rw [MakeChecks.laidMetH_plain _ _ _ (by kernel_rfl)]; exact laidMet_laidAll _ (by kernel_rfl) (by kernel_rfl))) ?_
  intro W base args ds gs before hval0 hW _ hsz hL _
  have hval : ∀ (j : Nat) t v, Tryd.f9.params[j]? = some t → args[j]? = some v → Value.okWide Tryd.prog W .any base t v := hval0
  have hW' := hW
  obtain ⟨p, q, hA0, hV, rfl, _, _⟩ := hW
  have hA : DataW.TrodAll enc Tryd.prog W 0 (fun _ => true) true Tryd.f9.params.toList args.toList ds p := hA0
  obtain ⟨rfl, rfl⟩ := trodVars_none hV
  rw [MakeChecks.laidMetH_plain _ _ _ (by kernel_rfl)] at hL
  have hlt : ∀ x ∈ p, x.block < W.heap.size := fun x hx => hW'.lt x (by simpa using hx)
  have fin : ∀ W', Below W.heap.size W W' → (Rows.asciiBackSpec.fn H (ds ++ [])).results = [.lit (.bool true)] → (Rows.asciiBackSpec.fn H (ds ++ [])).args = ds → (Rows.asciiBackSpec.fn H (ds ++ [])).vars = [] → Rows.asciiBackSpec.post enc Tryd.prog Tryd.f9 false true false false W args (.bool true) W' := by
    intro W' hb h1 h2 h3
    refine ⟨ds, [], _, [], p, [], hW', ?_, ?_, ?_, hb.frame _, fun h => by cases h⟩
    · rw [h1]; exact trodAll_mk1 (shut_bool Tryd.underlying4 _)
    · rw [h2]; exact Cls.trodAll_below Cls.laidOut hb _ _ _ _ hA (Cls.readable _ (by kernel_rfl)) hlt
    · rw [h3]; rfl
  rw [Tryd.params9] at hA hval
  obtain ⟨v0, v1, d0, d1, p0, p1, rfl, rfl, rfl, h0, h1⟩ := trodAll_two hA
  obtain ⟨n, rfl, rfl, rfl, wn⟩ := open_int Tryd.underlying3 (hval 0 3 v0 rfl rfl) h0
  obtain ⟨s, rfl, rfl, rfl, _⟩ := open_string Tryd.underlying9 (hval 1 9 v1 rfl rfl) h1
  have hn : -9223372036854775808 ≤ n ∧ n ≤ 9223372036854775807 := by simpa [Lit.wf, IntKind.min, IntKind.max, IntKind.signed, IntKind.bits] using wn
  have hreach := sized_string hsz (j := 1) rfl rfl
  have hs : s.size ≤ 140737488355328 := by
    have : s.data.toList.length = s.size := rfl
    unfold reachBytes at hreach
    omega
  have ht : NumTabs W := tabs_of W (Lib.laidMet.reads hL (.tail _ (.tail _ (.head _)))) (Lib.laidMet.reads hL (.tail _ (.head _)))
  refine (lawBack n s W hn.1 hn.2 hs ht).mono fun e W' ⟨he, hb⟩ => ?_
  subst he
  exact ⟨_, rfl, fin W' hb rfl rfl rfl⟩

theorem saidAsciiBack : Rows.AsciiBackSaid :=
  OpenClaim.holds_of_wide 9 Tryd.f9 rfl rfl rfl rfl rfl rfl rfl ⟨rfl, rfl, rfl, rfl, rfl⟩ rfl rfl rfl rfl rfl (by kernel_rfl) Tryd.func9 (by kernel_rfl)
    (of_decide_eq_true (by kernel_rfl)) (by unfold Func.isWrapper; first | (rw [if_pos (by decide +kernel)]; kernel_rfl) | (rw [if_neg (by decide +kernel)]; exact ⟨rfl, rfl⟩))
    (fun os started H enc _ => liftedAsciiBack os started H enc)
end Go.Proofs.YtbekebdgmgjpgaaDoor.Asc
namespace Go.Proofs.YtbekebdgmgjpgaaDoor
open Go

theorem asciiBack_holds : Rows.AsciiBackCardSaid :=
  Claim7.holds_tied_plain_at .later [] _ _ _ _ Asc.saidAsciiBack (fun _ h => by cases h) (by kernel_rfl) (fun _ h => by cases h) asciiBack_row_tie rfl ⟨rfl, rfl⟩ (by kernel_rfl) rfl
    (fun f fn hf hfn => by
      obtain rfl : f = 9 := Option.some.inj ((show Tryd.prog.funcNamed "gatehouse/gatehouselaw01.AsciiBack" = some 9 by kernel_rfl).symm.trans hf) |>.symm
      obtain rfl : fn = Tryd.f9 := (Option.some.inj (Tryd.func9.symm.trans hfn)).symm
      exact ⟨by kernel_rfl, fun j t ht => by
        rw [Tryd.params9] at ht
        have hm : t ∈ [3, 9] := by simpa using Array.mem_of_getElem? ht
        have hall : ([3, 9].all fun u => !Tryd.prog.wantsStandIn u) = true := by kernel_rfl
        exact (show Tryd.prog.wantsStandIn t = false by simpa using List.all_eq_true.1 hall t hm)⟩)
    (by kernel_rfl)
end Go.Proofs.YtbekebdgmgjpgaaDoor
