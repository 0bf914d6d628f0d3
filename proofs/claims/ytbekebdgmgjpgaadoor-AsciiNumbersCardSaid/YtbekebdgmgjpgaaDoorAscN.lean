/- Contracts of the document's answers for numbers read and written. -/
import Derived.Test.YtbekebdgmgjpgaaDoorAscM
import Derived.Test.YtbekebdgmgjpgaaDoorAscE
namespace Go.Proofs.YtbekebdgmgjpgaaDoor.Asc
open Go.RowKit

theorem worth_bad (c : UInt8) (r : Nat) (h : r ≤ digB c) : worthI c r = -1 := by unfold worthI; rw [if_neg (by omega)]
theorem worth_ok (c : UInt8) (r : Nat) (h : digB c < r) : worthI c r = (digB c : Int) := by unfold worthI; rw [if_pos h]
theorem valL_take (r : Nat) (hr : 1 ≤ r) (l : List UInt8) : ∀ k, valL r (l.take k) ≤ valL r l := by
  have mono : ∀ (q : List UInt8) (a b : Nat), a ≤ b → q.foldl (fun n c => n * r + digB c) a ≤ q.foldl (fun n c => n * r + digB c) b ∧ a ≤ q.foldl (fun n c => n * r + digB c) a := by
    intro q
    induction q with
    | nil => intro a b h; exact ⟨h, Nat.le_refl _⟩
    | cons x q ih =>
      intro a b h
      have h1 : a * r + digB x ≤ b * r + digB x := by
        have := Nat.mul_le_mul_right r h
        omega
      have h2 : a ≤ a * r + digB x := by
        have : a * 1 ≤ a * r := Nat.mul_le_mul_left _ hr
        omega
      exact ⟨(ih _ _ h1).1, Nat.le_trans h2 (ih (a * r + digB x) _ (Nat.le_refl _)).2⟩
  intro k
  unfold valL
  conv => rhs; rw [← List.take_append_drop k l, List.foldl_append]
  exact (mono (l.drop k) _ _ (Nat.le_refl _)).2

set_option maxRecDepth 100000 in
set_option maxHeartbeats 2000000 in
theorem refNum10_any (s : ByteArray) (w : World) (hs : s.size ≤ 9223372036854775807) :
    Calls Tryd.prog 49 #[.string s, .int .i64 10, .int .i64 1000000000000000000] w fun e w' => e = .returned (.tuple #[.int .i64 ((numL 10 1000000000000000000 s.data.toList).1 : Nat), .int .i64 ((numL 10 1000000000000000000 s.data.toList).2 : Nat)]) ∧ w = w' := by
  have HW := fun c w => Lib.hid (worth_any c 10 (by omega) w)
  have HWR : ∀ (c : UInt8) (w : World), Hid (Calls Tryd.prog 79 #[.int .u8 (c.toNat : Int), .int .i64 10] w fun e w' => e = .returned (.int .i64 (worthI c 10)) ∧ w = w') := HW
  clear HW
  cases hz : s.toList.isEmpty with
  | true =>
    have HE := Lib.hid (numL_none 10 1000000000000000000 s hz)
    have hsz : ((s.size : Int) == 0) = true := by
      have : s.data.toList = [] := by rw [← Lib.toList_data]; exact List.isEmpty_iff.1 hz
      have h2 : s.data.toList.length = s.size := rfl
      rw [this] at h2
      rw [← h2]; rfl
    clear hz
    go_enter Tryd.func49, Tryd.ntmps49
    go_wp2
    go_ret2
    exact ⟨ret_two (by rw [HE.out]; rfl) (by rw [HE.out]; rfl), rfl⟩
  | false =>
    have HZ := Lib.hid hz
    have hsz : ((s.size : Int) == 0) = false := by
      rw [beq_eq_false_iff_ne]
      intro e
      have h2 : s.data.toList.length = s.size := rfl
      have : s.data.toList = [] := List.eq_nil_of_length_eq_zero (by omega)
      rw [← Lib.toList_data] at this
      rw [this] at hz; cases hz
    clear hz
    go_enter Tryd.func49, Tryd.ntmps49
    go_wp2
    clear hsz
    go_loop [8] (fun i => ∃ k : Nat, k ≤ s.size ∧ i = .int .i64 k ∧ (s.data.toList.take k).all (fun c => decide (digB c < 10)) = true) (fun i => s.size - (intOf i).toNat)
    case atStart => exact ⟨0, Nat.zero_le _, rfl, by simp⟩
    case round =>
      obtain ⟨k, hk, rfl, hall⟩ := hrel
      have HA := Lib.hid hall
      clear hall
      by_cases hlt : k < s.size
      · by_cases hd : digB s[k] < 10
        · have HR : Hid ((s.data.toList.take (k + 1)).all (fun c => decide (digB c < 10)) = true) := by show _ = _; rw [take_snoc s k hlt, List.all_append, HA.out]; simp [hd]
          have H1 := HWR s[k]
          rw [worth_ok _ _ hd] at H1
          clear hd
          go_wp2_with (go_at_call 79; refine (H1 _).out.mono ?_; rintro e w1 ⟨rfl, rfl⟩)
          go_round
          case rel => exact ⟨k + 1, by omega, by go_num, HR.out⟩
          case measure => simp [intOf]; omega
        · have HE := Lib.hid (numL_bad 10 1000000000000000000 s k hlt (by omega))
          have H1 := HWR s[k]
          rw [worth_bad _ _ (by omega)] at H1
          clear hd
          go_wp2_with (go_at_call 79; refine (H1 _).out.mono ?_; rintro e w1 ⟨rfl, rfl⟩)
          go_ret2
          exact ⟨ret_two (by rw [HE.out]; rfl) (by rw [HE.out]; rfl), rfl⟩
      · obtain rfl : k = s.size := by omega
        have hall := HA.out
        rw [take_all] at hall
        have HAll := Lib.hid hall
        clear hall HA
        go_wp2
        go_loop [9, 10] (fun a i => ∃ k n : Nat, k ≤ s.size ∧ a = .int .i64 n ∧ i = .int .i64 k ∧ St 10 1000000000000000000 s k n true) (fun _ i => s.size - (intOf i).toNat)
        case atStart => exact ⟨0, 0, Nat.zero_le _, rfl, rfl, St.start _ _ _⟩
        case round =>
          obtain ⟨k, n, hk, rfl, rfl, hst⟩ := hrel
          have HSt := Lib.hid hst
          clear hst
          by_cases hlt : k < s.size
          · have hd : digB s[k] < 10 := by
              have := List.all_eq_true.1 HAll.out _ (mem_at s k hlt)
              exact of_decide_eq_true this
            have HD16 := digB_le s[k]
            have H1 := HWR s[k]
            rw [worth_ok _ _ hd] at H1
            by_cases hfit : n * 10 + digB s[k] ≤ 1000000000000000000
            · have HN := Lib.hid ((HSt.out.step (by omega) hlt hd).1 rfl hfit)
              have hfi : (n : Int) * 10 + (digB s[k] : Int) ≤ 1000000000000000000 := by omega
              have hn0 : 0 ≤ (n : Int) * 10 := by omega
              have hq : ¬ ((1000000000000000000 - (digB s[k] : Int)) / 10 < (n : Int)) := by omega
              clear hfit hd
              go_wp2_with (go_at_call 79; refine (H1 _).out.mono ?_; rintro e w1 ⟨rfl, rfl⟩)
              go_round
              case rel => exact ⟨k + 1, n * 10 + digB s[k], by omega, by go_num, by go_num, HN.out⟩
              case measure => simp [intOf]; omega
            · have hbig : 1000000000000000000 < valL 10 s.data.toList := by
                have h1 := (HSt.out.step (by omega) hlt hd).2.1 rfl (by omega) n
                obtain ⟨_, ⟨h2, _⟩ | ⟨_, h2⟩⟩ := h1
                · cases h2
                · refine Nat.lt_of_lt_of_le h2 ?_
                  exact valL_take 10 (by omega) _ _
              have HE := Lib.hid (numL_good 10 1000000000000000000 s HZ.out HAll.out)
              rw [if_pos hbig] at HE
              have hq : (1000000000000000000 - (digB s[k] : Int)) / 10 < (n : Int) := by omega
              clear hfit hd hbig
              go_wp2_with (go_at_call 79; refine (H1 _).out.mono ?_; rintro e w1 ⟨rfl, rfl⟩)
              go_ret2
              exact ⟨ret_two (by rw [HE.out]; rfl) (by rw [HE.out]; rfl), rfl⟩
          · obtain rfl : k = s.size := by omega
            have HL := Lib.hid (HSt.out.last HZ.out)
            go_wp2
            go_ret2
            exact ⟨ret_two (by rw [HL.out]; rfl) (by rw [HL.out]; rfl), rfl⟩

set_option maxHeartbeats 400000 in
theorem refDecimal_any (s : ByteArray) (w : World) (hs : s.size ≤ 9223372036854775807) :
    Calls Tryd.prog 25 #[.string s] w fun e w' => e = .returned (.tuple #[.int .i64 ((numL 10 1000000000000000000 s.data.toList).1 : Nat), .int .i64 ((numL 10 1000000000000000000 s.data.toList).2 : Nat)]) ∧ w = w' := by
  have HC := fun w => Lib.hid (refNum10_any s w hs)
  generalize numL 10 1000000000000000000 s.data.toList = p at HC ⊢
  go_enter Tryd.func25, Tryd.ntmps25
  go_wp2_with (go_at_call 49; refine (HC _).out.mono ?_; rintro e w1 ⟨rfl, rfl⟩)
  go_ret2
  exact ⟨rfl, rfl⟩

set_option maxRecDepth 100000 in
set_option maxHeartbeats 2000000 in
theorem refNum16_any (s : ByteArray) (w : World) (hs : s.size ≤ 9223372036854775807) :
    Calls Tryd.prog 49 #[.string s, .int .i64 16, .int .i64 1152921504606846976] w fun e w' => e = .returned (.tuple #[.int .i64 ((numL 16 1152921504606846976 s.data.toList).1 : Nat), .int .i64 ((numL 16 1152921504606846976 s.data.toList).2 : Nat)]) ∧ w = w' := by
  have HW := fun c w => Lib.hid (worth_any c 16 (by omega) w)
  have HWR : ∀ (c : UInt8) (w : World), Hid (Calls Tryd.prog 79 #[.int .u8 (c.toNat : Int), .int .i64 16] w fun e w' => e = .returned (.int .i64 (worthI c 16)) ∧ w = w') := HW
  clear HW
  cases hz : s.toList.isEmpty with
  | true =>
    have HE := Lib.hid (numL_none 16 1152921504606846976 s hz)
    have hsz : ((s.size : Int) == 0) = true := by
      have : s.data.toList = [] := by rw [← Lib.toList_data]; exact List.isEmpty_iff.1 hz
      have h2 : s.data.toList.length = s.size := rfl
      rw [this] at h2
      rw [← h2]; rfl
    clear hz
    go_enter Tryd.func49, Tryd.ntmps49
    go_wp2
    go_ret2
    exact ⟨ret_two (by rw [HE.out]; rfl) (by rw [HE.out]; rfl), rfl⟩
  | false =>
    have HZ := Lib.hid hz
    have hsz : ((s.size : Int) == 0) = false := by
      rw [beq_eq_false_iff_ne]
      intro e
      have h2 : s.data.toList.length = s.size := rfl
      have : s.data.toList = [] := List.eq_nil_of_length_eq_zero (by omega)
      rw [← Lib.toList_data] at this
      rw [this] at hz; cases hz
    clear hz
    go_enter Tryd.func49, Tryd.ntmps49
    go_wp2
    clear hsz
    go_loop [8] (fun i => ∃ k : Nat, k ≤ s.size ∧ i = .int .i64 k ∧ (s.data.toList.take k).all (fun c => decide (digB c < 16)) = true) (fun i => s.size - (intOf i).toNat)
    case atStart => exact ⟨0, Nat.zero_le _, rfl, by simp⟩
    case round =>
      obtain ⟨k, hk, rfl, hall⟩ := hrel
      have HA := Lib.hid hall
      clear hall
      by_cases hlt : k < s.size
      · by_cases hd : digB s[k] < 16
        · have HR : Hid ((s.data.toList.take (k + 1)).all (fun c => decide (digB c < 16)) = true) := by show _ = _; rw [take_snoc s k hlt, List.all_append, HA.out]; simp [hd]
          have H1 := HWR s[k]
          rw [worth_ok _ _ hd] at H1
          clear hd
          go_wp2_with (go_at_call 79; refine (H1 _).out.mono ?_; rintro e w1 ⟨rfl, rfl⟩)
          go_round
          case rel => exact ⟨k + 1, by omega, by go_num, HR.out⟩
          case measure => simp [intOf]; omega
        · have HE := Lib.hid (numL_bad 16 1152921504606846976 s k hlt (by omega))
          have H1 := HWR s[k]
          rw [worth_bad _ _ (by omega)] at H1
          clear hd
          go_wp2_with (go_at_call 79; refine (H1 _).out.mono ?_; rintro e w1 ⟨rfl, rfl⟩)
          go_ret2
          exact ⟨ret_two (by rw [HE.out]; rfl) (by rw [HE.out]; rfl), rfl⟩
      · obtain rfl : k = s.size := by omega
        have hall := HA.out
        rw [take_all] at hall
        have HAll := Lib.hid hall
        clear hall HA
        go_wp2
        go_loop [9, 10] (fun a i => ∃ k n : Nat, k ≤ s.size ∧ a = .int .i64 n ∧ i = .int .i64 k ∧ St 16 1152921504606846976 s k n true) (fun _ i => s.size - (intOf i).toNat)
        case atStart => exact ⟨0, 0, Nat.zero_le _, rfl, rfl, St.start _ _ _⟩
        case round =>
          obtain ⟨k, n, hk, rfl, rfl, hst⟩ := hrel
          have HSt := Lib.hid hst
          clear hst
          by_cases hlt : k < s.size
          · have hd : digB s[k] < 16 := by
              have := List.all_eq_true.1 HAll.out _ (mem_at s k hlt)
              exact of_decide_eq_true this
            have HD16 := digB_le s[k]
            have H1 := HWR s[k]
            rw [worth_ok _ _ hd] at H1
            by_cases hfit : n * 16 + digB s[k] ≤ 1152921504606846976
            · have HN := Lib.hid ((HSt.out.step (by omega) hlt hd).1 rfl hfit)
              have hfi : (n : Int) * 16 + (digB s[k] : Int) ≤ 1152921504606846976 := by omega
              have hn0 : 0 ≤ (n : Int) * 16 := by omega
              have hq : ¬ ((1152921504606846976 - (digB s[k] : Int)) / 16 < (n : Int)) := by omega
              clear hfit hd
              go_wp2_with (go_at_call 79; refine (H1 _).out.mono ?_; rintro e w1 ⟨rfl, rfl⟩)
              go_round
              case rel => exact ⟨k + 1, n * 16 + digB s[k], by omega, by go_num, by go_num, HN.out⟩
              case measure => simp [intOf]; omega
            · have hbig : 1152921504606846976 < valL 16 s.data.toList := by
                have h1 := (HSt.out.step (by omega) hlt hd).2.1 rfl (by omega) n
                obtain ⟨_, ⟨h2, _⟩ | ⟨_, h2⟩⟩ := h1
                · cases h2
                · refine Nat.lt_of_lt_of_le h2 ?_
                  exact valL_take 16 (by omega) _ _
              have HE := Lib.hid (numL_good 16 1152921504606846976 s HZ.out HAll.out)
              rw [if_pos hbig] at HE
              have hq : (1152921504606846976 - (digB s[k] : Int)) / 16 < (n : Int) := by omega
              clear hfit hd hbig
              go_wp2_with (go_at_call 79; refine (H1 _).out.mono ?_; rintro e w1 ⟨rfl, rfl⟩)
              go_ret2
              exact ⟨ret_two (by rw [HE.out]; rfl) (by rw [HE.out]; rfl), rfl⟩
          · obtain rfl : k = s.size := by omega
            have HL := Lib.hid (HSt.out.last HZ.out)
            go_wp2
            go_ret2
            exact ⟨ret_two (by rw [HL.out]; rfl) (by rw [HL.out]; rfl), rfl⟩

set_option maxHeartbeats 400000 in
theorem refHex_any (s : ByteArray) (w : World) (hs : s.size ≤ 9223372036854775807) :
    Calls Tryd.prog 27 #[.string s] w fun e w' => e = .returned (.tuple #[.int .i64 ((numL 16 1152921504606846976 s.data.toList).1 : Nat), .int .i64 ((numL 16 1152921504606846976 s.data.toList).2 : Nat)]) ∧ w = w' := by
  have HC := fun w => Lib.hid (refNum16_any s w hs)
  generalize numL 16 1152921504606846976 s.data.toList = p at HC ⊢
  go_enter Tryd.func27, Tryd.ntmps27
  go_wp2_with (go_at_call 49; refine (HC _).out.mono ?_; rintro e w1 ⟨rfl, rfl⟩)
  go_ret2
  exact ⟨rfl, rfl⟩

end Go.Proofs.YtbekebdgmgjpgaaDoor.Asc
