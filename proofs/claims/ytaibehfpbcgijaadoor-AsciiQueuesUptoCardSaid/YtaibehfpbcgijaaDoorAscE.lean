/- Contracts of package ascii's numbers, and of the document's answers for them. -/
import Derived.Test.YtaibehfpbcgijaaDoorAscC
import Derived.BigQuiet
import Derived.Deep.QuietTactic
import Derived.Deep.RegionWith
import Derived.Deep.RegionHeld3
import Derived.Deep.DeepCutAuto
namespace Go.Proofs.YtaibehfpbcgijaaDoor.Asc
open Go.RowKit

def valL (r : Nat) (l : List UInt8) : Nat := l.foldl (fun n c => n * r + digB c) 0
theorem valL_snoc (r : Nat) (l : List UInt8) (c : UInt8) : valL r (l ++ [c]) = valL r l * r + digB c := by
  unfold valL; rw [List.foldl_append]; rfl
/-- P104: what is read of a numeral: the number, and the error's number. -/
def numL (r most : Nat) (l : List UInt8) : Nat × Nat :=
  if l.isEmpty || l.any (fun c => decide (r ≤ digB c)) then (0, 21) else if most < valL r l then (0, 11) else (valL r l, 0)
theorem numL_bad (r most : Nat) (s : ByteArray) (k : Nat) (h : k < s.size) (hd : r ≤ digB s[k]) : numL r most s.data.toList = (0, 21) := by
  unfold numL
  rw [if_pos]
  rw [Bool.or_eq_true, List.any_eq_true]
  exact .inr ⟨_, mem_at s k h, by simpa using hd⟩
theorem numL_none (r most : Nat) (s : ByteArray) (h : s.toList.isEmpty = true) : numL r most s.data.toList = (0, 21) := by
  unfold numL
  rw [if_pos (by rw [← Lib.toList_data, h, Bool.true_or])]
theorem numL_good (r most : Nat) (s : ByteArray) (h : s.toList.isEmpty = false) (hd : s.data.toList.all (fun c => decide (digB c < r)) = true) :
    numL r most s.data.toList = if most < valL r s.data.toList then (0, 11) else (valL r s.data.toList, 0) := by
  unfold numL
  rw [if_neg]
  rw [Bool.or_eq_true, List.any_eq_true, ← Lib.toList_data, h]
  rintro (h | ⟨x, hx, hd'⟩)
  · cases h
  · rw [List.all_eq_true] at hd
    have h1 := of_decide_eq_true (hd x (by rw [← Lib.toList_data]; exact hx))
    have h2 := of_decide_eq_true hd'
    omega
theorem ret_two {k k' : IntKind} {a b c d : Int} (h : a = c) (h' : b = d) : Ending.returned (.tuple #[.int k a, .int k' b]) = .returned (.tuple #[.int k c, .int k' d]) := by rw [h, h']
/-- What a loop over a numeral holds, k bytes being read. -/
def St (r most : Nat) (s : ByteArray) (k : Nat) (n : Nat) (fits : Bool) : Prop :=
  (s.data.toList.take k).all (fun c => decide (digB c < r)) = true ∧ ((fits = true ∧ n = valL r (s.data.toList.take k) ∧ n ≤ most) ∨ (fits = false ∧ most < valL r (s.data.toList.take k)))
theorem St.start (r most : Nat) (s : ByteArray) : St r most s 0 0 true := by
  refine ⟨by simp, .inl ⟨rfl, by simp [valL], Nat.zero_le _⟩⟩
theorem St.step {r most : Nat} {s : ByteArray} {k n : Nat} {fits : Bool} (h : St r most s k n fits) (hr : 1 ≤ r) (hk : k < s.size) (hd : digB s[k] < r) :
    (fits = true → n * r + digB s[k] ≤ most → St r most s (k + 1) (n * r + digB s[k]) true) ∧ (fits = true → most < n * r + digB s[k] → ∀ m, St r most s (k + 1) m false) ∧ (fits = false → ∀ m, St r most s (k + 1) m false) := by
  obtain ⟨h1, h2⟩ := h
  have ha : (s.data.toList.take (k + 1)).all (fun c => decide (digB c < r)) = true := by rw [take_snoc s k hk, List.all_append, h1]; simp [hd]
  refine ⟨fun hf hm => ⟨ha, .inl ⟨rfl, ?_, hm⟩⟩, fun hf hm m => ⟨ha, .inr ⟨rfl, ?_⟩⟩, fun hf m => ⟨ha, .inr ⟨rfl, ?_⟩⟩⟩
  · rcases h2 with ⟨_, e, _⟩ | ⟨e, _⟩
    · rw [take_snoc s k hk, valL_snoc, e]
    · rw [hf] at e; cases e
  · rcases h2 with ⟨_, e, _⟩ | ⟨e, _⟩
    · rw [take_snoc s k hk, valL_snoc, ← e]; exact hm
    · rw [hf] at e; cases e
  · rcases h2 with ⟨e, _⟩ | ⟨_, e⟩
    · rw [hf] at e; cases e
    · rw [take_snoc s k hk, valL_snoc]
      have : valL r (s.data.toList.take k) * 1 ≤ valL r (s.data.toList.take k) * r := Nat.mul_le_mul_left _ hr
      omega
theorem St.last {r most : Nat} {s : ByteArray} {n : Nat} {fits : Bool} (h : St r most s s.size n fits) (hz : s.toList.isEmpty = false) : numL r most s.data.toList = if fits then (n, 0) else (0, 11) := by
  obtain ⟨h1, h2⟩ := h
  rw [take_all] at h1 h2
  rw [numL_good r most s hz h1]
  rcases h2 with ⟨rfl, e, hm⟩ | ⟨rfl, e⟩
  · rw [← e, if_neg (by omega)]; rfl
  · rw [if_pos e]; rfl

set_option maxHeartbeats 400000 in
theorem radix10_any (w : World) : Calls Tryd.prog 138 #[.agg #[]] w fun e w' => e = .returned (.int .i64 10) ∧ Below w.heap.size w w' := by
  go_enter Tryd.func138, Tryd.ntmps138
  go_wp2
  go_ret
  exact ⟨rfl, (Below.refl _ _).alloc (Nat.le_refl _) _⟩
set_option maxHeartbeats 400000 in
theorem most10_any (w : World) : Calls Tryd.prog 137 #[.agg #[]] w fun e w' => e = .returned (.int .i64 1000000000000000000) ∧ Below w.heap.size w w' := by
  go_enter Tryd.func137, Tryd.ntmps137
  go_wp2
  go_ret
  exact ⟨rfl, (Below.refl _ _).alloc (Nat.le_refl _) _⟩
theorem radix10_at (w0 W : World) (h : Below w0.heap.size w0 W) : Calls Tryd.prog 138 #[.agg #[]] W fun e w' => e = .returned (.int .i64 10) ∧ Below w0.heap.size w0 w' :=
  (radix10_any W).mono fun _ _ ⟨he, hb⟩ => ⟨he, h.trans (hb.mono h.size)⟩
theorem most10_at (w0 W : World) (h : Below w0.heap.size w0 W) : Calls Tryd.prog 137 #[.agg #[]] W fun e w' => e = .returned (.int .i64 1000000000000000000) ∧ Below w0.heap.size w0 w' :=
  (most10_any W).mono fun _ _ ⟨he, hb⟩ => ⟨he, h.trans (hb.mono h.size)⟩
theorem wrapdiv10 (d : Nat) (h : d ≤ 16) : IntKind.i64.wrap ((IntKind.i64.wrap (1000000000000000000 - (d : Int))).tdiv 10) = (1000000000000000000 - (d : Int)) / 10 := by
  have H : ∀ i : Fin 17, IntKind.i64.wrap ((IntKind.i64.wrap (1000000000000000000 - (i.1 : Int))).tdiv 10) = (1000000000000000000 - (i.1 : Int)) / 10 := by decide +kernel
  exact H ⟨d, by omega⟩
theorem meth_radix10 (w : World) : (method 257 76 (.agg #[]) "gatehouse/ascii.radix").run Tryd.prog w = .ok (138, .agg #[]) w := by kernel_rfl
theorem meth_most10 (w : World) : (method 257 76 (.agg #[]) "gatehouse/ascii.most").run Tryd.prog w = .ok (137, .agg #[]) w := by kernel_rfl

set_option maxRecDepth 100000 in
set_option maxHeartbeats 2000000 in
theorem read10_any (s : ByteArray) (w : World) (hs : s.size ≤ 9223372036854775807) :
    Calls Tryd.prog 48 #[.string s] w fun e w' => e = .returned (.tuple #[.int .i64 ((numL 10 1000000000000000000 s.data.toList).1 : Nat), .int .i64 ((numL 10 1000000000000000000 s.data.toList).2 : Nat)]) ∧ Below w.heap.size w w' := by
  have hm1 := meth_radix10
  have hm2 := meth_most10
  cases hz : s.toList.isEmpty with
  | true =>
    have HE := Lib.hid (numL_none 10 1000000000000000000 s hz)
    go_enter Tryd.func48, Tryd.ntmps48
    go_wp2
    go_ret2
    exact ⟨ret_two (by rw [HE.out]; rfl) (by rw [HE.out]; rfl), Below.refl _ _⟩
  | false =>
    have HZ := Lib.hid hz
    have hz2 : (!s.toList.isEmpty) = true := by rw [hz]; rfl
    go_enter Tryd.func48, Tryd.ntmps48
    go_wp2
    clear hz hz2
    go_loopw [5, 6, 13] (fun a b i wr => ∃ k n : Nat, ∃ fits : Bool, k ≤ s.size ∧ a = .int .i64 n ∧ b = .bool fits ∧ i = .int .i64 k ∧ St 10 1000000000000000000 s k n fits ∧ Below w.heap.size w wr) (fun _ _ i _ => s.size - (intOf i).toNat)
    case atStart => exact ⟨0, 0, true, Nat.zero_le _, rfl, rfl, rfl, St.start _ _ _, (Below.refl _ _).alloc (Nat.le_refl _) _⟩
    case round =>
      obtain ⟨k, n, fits, hk, rfl, rfl, rfl, hst, hbe⟩ := hrel
      have HSt := Lib.hid hst
      have HB := Lib.hid hbe
      have HBs := hbe.size
      clear hst hbe
      by_cases hlt : k < s.size
      · by_cases hd : digB s[k] < 10
        · cases fits with
          | true =>
            go_wp2_with (first
              | (go_at_call 78; refine (digit_any _ _).mono ?_; rintro e w1 ⟨rfl, rfl⟩)
              | (go_at_call 138; refine (radix10_any _).mono ?_; rintro e w1 ⟨rfl, hb1⟩))
            have HB1 := Lib.hid (HB.out.trans (hb1.mono HBs))
            have HD16 := digB_le s[k]
            clear hb1
            go_cut [6] (fun s6 wx => ∃ f : Bool, s6 = .bool f ∧ (f = true ↔ n * 10 + digB s[k] ≤ 1000000000000000000) ∧ Below w.heap.size w wx)
            case first =>
              go_region_with (first
                | (go_at_call 137; refine (most10_at w _ ?_).mono ?_; (repeat (first | exact HB1.out | assumption | apply Below.drew)); rintro e w' ⟨rfl, hbe⟩)
                | (go_at_call 138; refine (radix10_at w _ ?_).mono ?_; (repeat (first | exact HB1.out | assumption | apply Below.drew)); rintro e w' ⟨rfl, hbe⟩))
              all_goals go_wp2_with fail
              all_goals go_meet
              all_goals exact ⟨_, rfl, by rw [wrapdiv10 _ HD16, decide_eq_true_eq]; omega, by assumption⟩
            case rest =>
              obtain ⟨f, rfl, hf, hbe⟩ := hcut
              have HB2 := Lib.hid hbe
              have HB2s := hbe.size
              clear hbe
              cases f with
              | true =>
                have hfit := hf.1 rfl
                clear hf
                have HN := Lib.hid ((HSt.out.step (by omega) hlt hd).1 rfl hfit)
                have hfi : (n : Int) * 10 + (digB s[k] : Int) ≤ 1000000000000000000 := by omega
                have hn0 : 0 ≤ (n : Int) * 10 := by omega
                clear hfit
                go_wp2_with (go_at_call 138; refine (radix10_any _).mono ?_; rintro e w2 ⟨rfl, hb2⟩)
                go_roundw
                case rel => exact ⟨k + 1, n * 10 + digB s[k], true, by omega, by go_num, rfl, by go_num, HN.out, HB2.out.trans (hb2.mono HB2s)⟩
                case measure => simp [intOf]; omega
              | false =>
                have hfit : ¬ n * 10 + digB s[k] ≤ 1000000000000000000 := fun h => by have := hf.2 h; cases this
                clear hf
                have HN := Lib.hid ((HSt.out.step (by omega) hlt hd).2.1 rfl (by omega) n)
                clear hfit
                go_wp2
                go_roundw
                case rel => exact ⟨k + 1, n, false, by omega, rfl, rfl, by go_num, HN.out, HB2.out⟩
                case measure => simp [intOf]; omega
          | false =>
            have HN := (HSt.out.step (by omega) hlt hd).2.2 rfl
            have HN := Lib.hid (HN n)
            have hd' : (digB s[k] : Int) < 10 := by omega
            clear hd
            go_wp2_with (first
              | (go_at_call 78; refine (digit_any _ _).mono ?_; rintro e w1 ⟨rfl, rfl⟩)
              | (go_at_call 138; refine (radix10_any _).mono ?_; rintro e w1 ⟨rfl, hb1⟩))
            go_quiet (fail)
            go_wp2
            go_roundw
            case rel => exact ⟨k + 1, n, false, by omega, rfl, rfl, by go_num, HN.out, (HB.out.trans (hb1.mono HBs)).trans ⟨rfl, rfl, rfl, Nat.le_refl _, fun _ _ => rfl⟩⟩
            case measure => simp [intOf]; omega
        · have HE := Lib.hid (numL_bad 10 1000000000000000000 s k hlt (by omega))
          have hd' : 10 ≤ (digB s[k] : Int) := by omega
          clear hd
          go_wp2_with (first
            | (go_at_call 78; refine (digit_any _ _).mono ?_; rintro e w1 ⟨rfl, rfl⟩)
            | (go_at_call 138; refine (radix10_any _).mono ?_; rintro e w1 ⟨rfl, hb1⟩))
          go_ret2
          exact ⟨ret_two (by rw [HE.out]; rfl) (by rw [HE.out]; rfl), HB.out.trans (hb1.mono HBs)⟩
      · obtain rfl : k = s.size := by omega
        have HL := Lib.hid (HSt.out.last HZ.out)
        cases fits with
        | true =>
          go_wp2
          go_ret2
          exact ⟨ret_two (by rw [HL.out]; rfl) (by rw [HL.out]; rfl), HB.out⟩
        | false =>
          go_wp2
          go_ret2
          exact ⟨ret_two (by rw [HL.out]; rfl) (by rw [HL.out]; rfl), HB.out⟩

set_option maxHeartbeats 400000 in
theorem radix16_any (w : World) : Calls Tryd.prog 140 #[.agg #[]] w fun e w' => e = .returned (.int .i64 16) ∧ Below w.heap.size w w' := by
  go_enter Tryd.func140, Tryd.ntmps140
  go_wp2
  go_ret
  exact ⟨rfl, (Below.refl _ _).alloc (Nat.le_refl _) _⟩
set_option maxHeartbeats 400000 in
theorem most16_any (w : World) : Calls Tryd.prog 139 #[.agg #[]] w fun e w' => e = .returned (.int .i64 1152921504606846976) ∧ Below w.heap.size w w' := by
  go_enter Tryd.func139, Tryd.ntmps139
  go_wp2
  go_ret
  exact ⟨rfl, (Below.refl _ _).alloc (Nat.le_refl _) _⟩
theorem radix16_at (w0 W : World) (h : Below w0.heap.size w0 W) : Calls Tryd.prog 140 #[.agg #[]] W fun e w' => e = .returned (.int .i64 16) ∧ Below w0.heap.size w0 w' :=
  (radix16_any W).mono fun _ _ ⟨he, hb⟩ => ⟨he, h.trans (hb.mono h.size)⟩
theorem most16_at (w0 W : World) (h : Below w0.heap.size w0 W) : Calls Tryd.prog 139 #[.agg #[]] W fun e w' => e = .returned (.int .i64 1152921504606846976) ∧ Below w0.heap.size w0 w' :=
  (most16_any W).mono fun _ _ ⟨he, hb⟩ => ⟨he, h.trans (hb.mono h.size)⟩
theorem wrapdiv16 (d : Nat) (h : d ≤ 16) : IntKind.i64.wrap ((IntKind.i64.wrap (1152921504606846976 - (d : Int))).tdiv 16) = (1152921504606846976 - (d : Int)) / 16 := by
  have H : ∀ i : Fin 17, IntKind.i64.wrap ((IntKind.i64.wrap (1152921504606846976 - (i.1 : Int))).tdiv 16) = (1152921504606846976 - (i.1 : Int)) / 16 := by decide +kernel
  exact H ⟨d, by omega⟩
theorem meth_radix16 (w : World) : (method 257 78 (.agg #[]) "gatehouse/ascii.radix").run Tryd.prog w = .ok (140, .agg #[]) w := by kernel_rfl
theorem meth_most16 (w : World) : (method 257 78 (.agg #[]) "gatehouse/ascii.most").run Tryd.prog w = .ok (139, .agg #[]) w := by kernel_rfl

set_option maxRecDepth 100000 in
set_option maxHeartbeats 2000000 in
theorem read16_any (s : ByteArray) (w : World) (hs : s.size ≤ 9223372036854775807) :
    Calls Tryd.prog 50 #[.string s] w fun e w' => e = .returned (.tuple #[.int .i64 ((numL 16 1152921504606846976 s.data.toList).1 : Nat), .int .i64 ((numL 16 1152921504606846976 s.data.toList).2 : Nat)]) ∧ Below w.heap.size w w' := by
  have hm1 := meth_radix16
  have hm2 := meth_most16
  cases hz : s.toList.isEmpty with
  | true =>
    have HE := Lib.hid (numL_none 16 1152921504606846976 s hz)
    go_enter Tryd.func50, Tryd.ntmps50
    go_wp2
    go_ret2
    exact ⟨ret_two (by rw [HE.out]; rfl) (by rw [HE.out]; rfl), Below.refl _ _⟩
  | false =>
    have HZ := Lib.hid hz
    have hz2 : (!s.toList.isEmpty) = true := by rw [hz]; rfl
    go_enter Tryd.func50, Tryd.ntmps50
    go_wp2
    clear hz hz2
    go_loopw [5, 6, 13] (fun a b i wr => ∃ k n : Nat, ∃ fits : Bool, k ≤ s.size ∧ a = .int .i64 n ∧ b = .bool fits ∧ i = .int .i64 k ∧ St 16 1152921504606846976 s k n fits ∧ Below w.heap.size w wr) (fun _ _ i _ => s.size - (intOf i).toNat)
    case atStart => exact ⟨0, 0, true, Nat.zero_le _, rfl, rfl, rfl, St.start _ _ _, (Below.refl _ _).alloc (Nat.le_refl _) _⟩
    case round =>
      obtain ⟨k, n, fits, hk, rfl, rfl, rfl, hst, hbe⟩ := hrel
      have HSt := Lib.hid hst
      have HB := Lib.hid hbe
      have HBs := hbe.size
      clear hst hbe
      by_cases hlt : k < s.size
      · by_cases hd : digB s[k] < 16
        · cases fits with
          | true =>
            go_wp2_with (first
              | (go_at_call 78; refine (digit_any _ _).mono ?_; rintro e w1 ⟨rfl, rfl⟩)
              | (go_at_call 140; refine (radix16_any _).mono ?_; rintro e w1 ⟨rfl, hb1⟩))
            have HB1 := Lib.hid (HB.out.trans (hb1.mono HBs))
            have HD16 := digB_le s[k]
            clear hb1
            go_cut [6] (fun s6 wx => ∃ f : Bool, s6 = .bool f ∧ (f = true ↔ n * 16 + digB s[k] ≤ 1152921504606846976) ∧ Below w.heap.size w wx)
            case first =>
              go_region_with (first
                | (go_at_call 139; refine (most16_at w _ ?_).mono ?_; (repeat (first | exact HB1.out | assumption | apply Below.drew)); rintro e w' ⟨rfl, hbe⟩)
                | (go_at_call 140; refine (radix16_at w _ ?_).mono ?_; (repeat (first | exact HB1.out | assumption | apply Below.drew)); rintro e w' ⟨rfl, hbe⟩))
              all_goals go_wp2_with fail
              all_goals go_meet
              all_goals exact ⟨_, rfl, by rw [wrapdiv16 _ HD16, decide_eq_true_eq]; omega, by assumption⟩
            case rest =>
              obtain ⟨f, rfl, hf, hbe⟩ := hcut
              have HB2 := Lib.hid hbe
              have HB2s := hbe.size
              clear hbe
              cases f with
              | true =>
                have hfit := hf.1 rfl
                clear hf
                have HN := Lib.hid ((HSt.out.step (by omega) hlt hd).1 rfl hfit)
                have hfi : (n : Int) * 16 + (digB s[k] : Int) ≤ 1152921504606846976 := by omega
                have hn0 : 0 ≤ (n : Int) * 16 := by omega
                clear hfit
                go_wp2_with (go_at_call 140; refine (radix16_any _).mono ?_; rintro e w2 ⟨rfl, hb2⟩)
                go_roundw
                case rel => exact ⟨k + 1, n * 16 + digB s[k], true, by omega, by go_num, rfl, by go_num, HN.out, HB2.out.trans (hb2.mono HB2s)⟩
                case measure => simp [intOf]; omega
              | false =>
                have hfit : ¬ n * 16 + digB s[k] ≤ 1152921504606846976 := fun h => by have := hf.2 h; cases this
                clear hf
                have HN := Lib.hid ((HSt.out.step (by omega) hlt hd).2.1 rfl (by omega) n)
                clear hfit
                go_wp2
                go_roundw
                case rel => exact ⟨k + 1, n, false, by omega, rfl, rfl, by go_num, HN.out, HB2.out⟩
                case measure => simp [intOf]; omega
          | false =>
            have HN := (HSt.out.step (by omega) hlt hd).2.2 rfl
            have HN := Lib.hid (HN n)
            have hd' : (digB s[k] : Int) < 16 := by omega
            clear hd
            go_wp2_with (first
              | (go_at_call 78; refine (digit_any _ _).mono ?_; rintro e w1 ⟨rfl, rfl⟩)
              | (go_at_call 140; refine (radix16_any _).mono ?_; rintro e w1 ⟨rfl, hb1⟩))
            go_quiet (fail)
            go_wp2
            go_roundw
            case rel => exact ⟨k + 1, n, false, by omega, rfl, rfl, by go_num, HN.out, (HB.out.trans (hb1.mono HBs)).trans ⟨rfl, rfl, rfl, Nat.le_refl _, fun _ _ => rfl⟩⟩
            case measure => simp [intOf]; omega
        · have HE := Lib.hid (numL_bad 16 1152921504606846976 s k hlt (by omega))
          have hd' : 16 ≤ (digB s[k] : Int) := by omega
          clear hd
          go_wp2_with (first
            | (go_at_call 78; refine (digit_any _ _).mono ?_; rintro e w1 ⟨rfl, rfl⟩)
            | (go_at_call 140; refine (radix16_any _).mono ?_; rintro e w1 ⟨rfl, hb1⟩))
          go_ret2
          exact ⟨ret_two (by rw [HE.out]; rfl) (by rw [HE.out]; rfl), HB.out.trans (hb1.mono HBs)⟩
      · obtain rfl : k = s.size := by omega
        have HL := Lib.hid (HSt.out.last HZ.out)
        cases fits with
        | true =>
          go_wp2
          go_ret2
          exact ⟨ret_two (by rw [HL.out]; rfl) (by rw [HL.out]; rfl), HB.out⟩
        | false =>
          go_wp2
          go_ret2
          exact ⟨ret_two (by rw [HL.out]; rfl) (by rw [HL.out]; rfl), HB.out⟩

set_option maxHeartbeats 400000 in
theorem decimal_any (s : ByteArray) (w : World) (hs : s.size ≤ 9223372036854775807) :
    Calls Tryd.prog 24 #[.string s] w fun e w' => e = .returned (.tuple #[.int .i64 ((numL 10 1000000000000000000 s.data.toList).1 : Nat), .int .i64 ((numL 10 1000000000000000000 s.data.toList).2 : Nat)]) ∧ Below w.heap.size w w' := by
  have HC := fun w => Lib.hid (read10_any s w hs)
  generalize numL 10 1000000000000000000 s.data.toList = p at HC ⊢
  go_enter Tryd.func24, Tryd.ntmps24
  go_wp2_with (go_at_call 48; refine (HC _).out.mono ?_; rintro e w1 ⟨rfl, hb1⟩)
  go_ret2
  exact ⟨rfl, hb1⟩

set_option maxHeartbeats 400000 in
theorem hex_any (s : ByteArray) (w : World) (hs : s.size ≤ 9223372036854775807) :
    Calls Tryd.prog 26 #[.string s] w fun e w' => e = .returned (.tuple #[.int .i64 ((numL 16 1152921504606846976 s.data.toList).1 : Nat), .int .i64 ((numL 16 1152921504606846976 s.data.toList).2 : Nat)]) ∧ Below w.heap.size w w' := by
  have HC := fun w => Lib.hid (read16_any s w hs)
  generalize numL 16 1152921504606846976 s.data.toList = p at HC ⊢
  go_enter Tryd.func26, Tryd.ntmps26
  go_wp2_with (go_at_call 50; refine (HC _).out.mono ?_; rintro e w1 ⟨rfl, hb1⟩)
  go_ret2
  exact ⟨rfl, hb1⟩

end Go.Proofs.YtaibehfpbcgijaaDoor.Asc
