/- Contracts of the library's Trim at the two blanks, of package ascii's Trim and Value, and of the document's answers for them. -/
import Derived.Test.YtaibehfpbcgijaaDoorAscC
import Derived.Test.YtaibehfpbcgijaaDoorShelf
namespace Go.Proofs.YtaibehfpbcgijaaDoor.Asc
open Go.RowKit Go.Shelf

/-- P103: without blanks at both ends. -/
def trimL (l : List UInt8) : List UInt8 := Lib.trimS l [9, 32]

set_option maxHeartbeats 1000000 in
theorem libTrim_any (s : ByteArray) (w : World) (hs : s.size ≤ 9223372036854775807) :
    Calls Tryd.prog 43 #[.string s, .string ⟨#[9, 32]⟩] w fun e w' => e = .returned (.string ⟨(trimL s.data.toList).toArray⟩) ∧ Below w.heap.size w w' :=
  Any.strings_Trim_laid Tryd.laysTrim (by kernel_rfl) s ⟨#[9, 32]⟩ w hs (by decide) (ascii_of_all (by decide))

theorem dropWhile_le {α : Type} (p : α → Bool) (l : List α) : (l.dropWhile p).length ≤ l.length := by
  induction l with
  | nil => simp
  | cons x l ih =>
    rw [List.dropWhile_cons]
    split
    · simp; omega
    · exact Nat.le_refl _
theorem trimRight_le (l cs : List UInt8) : (Lib.trimRightS l cs).length ≤ l.length := by
  unfold Lib.trimRightS
  rw [List.length_reverse]
  have := dropWhile_le (cs.contains ·) l.reverse
  rwa [List.length_reverse] at this
theorem trimLeft_le (l cs : List UInt8) : (Lib.trimLeftS l cs).length ≤ l.length := dropWhile_le _ _
theorem trimL_le (l : List UInt8) : (trimL l).length ≤ l.length := Nat.le_trans (trimLeft_le _ _) (trimRight_le _ _)

set_option maxHeartbeats 1000000 in
theorem libClone_any (s : ByteArray) (w : World) (hs : s.size ≤ 281474976710656) :
    Calls Tryd.prog 46 #[.string s] w fun e w' => e = .returned (.string s) ∧ Below w.heap.size w w' := by
  have hcon : Calls Tryd.prog 76 #[.string s] w fun e w' => e = .returned (.string s) ∧ Below w.heap.size w w' := Any.stringslite_Clone Tryd.laysClone s w hs
  go_enter Tryd.func46, Tryd.ntmps46
  go_wp2_with (go_at_call 76; refine hcon.mono ?_; rintro e w1 ⟨rfl, hb1⟩)
  go_ret
  exact ⟨rfl, hb1⟩

set_option maxHeartbeats 1000000 in
theorem trim_any (s : ByteArray) (w : World) (hs : s.size ≤ 140737488355328) :
    Calls Tryd.prog 19 #[.string s] w fun e w' => e = .returned (.string ⟨(trimL s.data.toList).toArray⟩) ∧ Below w.heap.size w w' := by
  have hcon := libTrim_any s w (by omega)
  have hle := trimL_le s.data.toList
  have hsz : s.data.toList.length = s.size := rfl
  rw [hsz] at hle
  clear hsz
  generalize trimL s.data.toList = r at hcon hle ⊢
  have hrs : (⟨r.toArray⟩ : ByteArray).size ≤ 281474976710656 := by
    show r.toArray.size ≤ _
    rw [List.size_toArray]; omega
  have HCon := Lib.hid hcon
  have HCl := fun w => Lib.hid (libClone_any ⟨r.toArray⟩ w hrs)
  clear hcon hrs hle
  go_enter Tryd.func19, Tryd.ntmps19
  go_wp2_with (first
    | (go_at_call 43; refine HCon.out.mono ?_; rintro e w1 ⟨rfl, hb1⟩)
    | (go_at_call 46; refine (HCl _).out.mono ?_; rintro e w2 ⟨rfl, hb2⟩))
  go_ret
  exact ⟨rfl, hb1.trans (hb2.mono hb1.size)⟩

/-- P102: what may be a field's value. -/
def valueS (l : List UInt8) : Bool := (trimL l == l) && l.all valB

theorem blank_mem (c : UInt8) : ([9, 32] : List UInt8).contains c = blankB c := by
  have H : ∀ i : Fin 256, ([9, 32] : List UInt8).contains (UInt8.ofNat i.1) = blankB (UInt8.ofNat i.1) := by decide +kernel
  have := H ⟨c.toNat, c.toNat_lt⟩
  simpa using this
theorem trimL_ends (l t u : List UInt8) (x y : UInt8) (hx : l = x :: t) (hy : l.reverse = y :: u) : (trimL l == l) = (!blankB x && !blankB y) := by
  have hul : u.length + 1 = l.length := by
    have := congrArg List.length hy
    rw [List.length_reverse] at this
    simpa using this.symm
  have htl : t.length + 1 = l.length := by rw [hx]; rfl
  cases hb : blankB y with
  | true =>
    rw [Bool.not_true, Bool.and_false, beq_eq_false_iff_ne]
    intro e
    have h1 : (Lib.trimRightS l [9, 32]).length ≤ u.length := by
      unfold Lib.trimRightS
      rw [List.length_reverse, hy, List.dropWhile_cons, if_pos (by rw [blank_mem]; exact hb)]
      exact dropWhile_le _ _
    have h2 : (trimL l).length ≤ (Lib.trimRightS l [9, 32]).length := trimLeft_le _ _
    rw [e] at h2
    omega
  | false =>
    have h1 : Lib.trimRightS l [9, 32] = l := by
      unfold Lib.trimRightS
      rw [hy, List.dropWhile_cons, if_neg (by rw [blank_mem, hb]; simp), ← hy, List.reverse_reverse]
    unfold trimL Lib.trimS
    rw [h1, Bool.not_false, Bool.and_true]
    unfold Lib.trimLeftS
    cases hbx : blankB x with
    | true =>
      rw [Bool.not_true, beq_eq_false_iff_ne]
      intro e
      have h2 : (l.dropWhile (([9, 32] : List UInt8).contains ·)).length ≤ t.length := by
        rw [hx, List.dropWhile_cons, if_pos (by rw [blank_mem]; exact hbx)]
        exact dropWhile_le _ _
      rw [e] at h2
      omega
    | false =>
      rw [Bool.not_false, beq_iff_eq]
      rw [hx, List.dropWhile_cons, if_neg (by rw [blank_mem, hbx]; simp)]
theorem value_ends (s : ByteArray) (h : 0 < s.size) (ha : s.data.toList.all valB = true) : valueS s.data.toList = (!blankB (s[0]'h) && !blankB (s[s.size - 1]'(by omega))) := by
  have hl : s.data.toList.length = s.size := rfl
  have h0 : s.data.toList[0]? = some (s[0]'h) := List.getElem?_eq_getElem (by rw [hl]; exact h)
  have h1 : s.data.toList.reverse[0]? = some (s[s.size - 1]'(by omega)) := by
    rw [List.getElem?_reverse (by rw [hl]; exact h), hl]
    exact List.getElem?_eq_getElem (by rw [hl]; omega)
  unfold valueS
  rw [ha, Bool.and_true]
  generalize (s[0]'h) = x at h0 ⊢
  generalize (s[s.size - 1]'(by omega)) = y at h1 ⊢
  obtain ⟨t, ht⟩ : ∃ t, s.data.toList = x :: t := by
    cases hc : s.data.toList with
    | nil => rw [hc] at h0; simp at h0
    | cons a t => rw [hc] at h0; simp at h0; exact ⟨t, by rw [h0]⟩
  obtain ⟨u, hu⟩ : ∃ u, s.data.toList.reverse = y :: u := by
    cases hc : s.data.toList.reverse with
    | nil => rw [hc] at h1; simp at h1
    | cons a t => rw [hc] at h1; simp at h1; exact ⟨t, by rw [h1]⟩
  exact trimL_ends _ t u x y ht hu
theorem value_none (s : ByteArray) (h : s.size = 0) : valueS s.data.toList = true := by
  have : s.data.toList = [] := List.eq_nil_of_length_eq_zero h
  rw [this]
  rfl

set_option maxHeartbeats 1000000 in
theorem value_any (s : ByteArray) (w : World) (hs : s.size ≤ 140737488355328) :
    Calls Tryd.prog 12 #[.string s] w fun e w' => e = .returned (.bool (valueS s.data.toList)) ∧ Below w.heap.size w w' := by
  have HCon := Lib.hid (libTrim_any s w (by omega))
  have HAll := fun w => Lib.hid (all_any s 2 (.inr rfl) w (by omega))
  have HV : Hid (∀ b : Bool, (trimL s.data.toList = s.toList ∧ b = allS 2 s.data.toList) ∨ (¬ trimL s.data.toList = s.toList ∧ b = false) → b = valueS s.data.toList) := by
    rintro b (⟨h, rfl⟩ | ⟨h, rfl⟩)
    · unfold valueS; rw [Lib.toList_data] at h; rw [allS_val, h, beq_self_eq_true, Bool.true_and]
    · unfold valueS; rw [Lib.toList_data] at h; rw [beq_eq_false_iff_ne.2 h, Bool.false_and]
  go_enter Tryd.func12, Tryd.ntmps12
  go_wp2_with (first
    | (go_at_call 43; refine HCon.out.mono ?_; rintro e w1 ⟨rfl, hb1⟩)
    | (go_at_call 41; refine (HAll _).out.mono ?_; rintro e w2 ⟨rfl, hb2⟩))
  · have h : trimL s.data.toList = s.toList := by assumption
    go_ret
    exact ⟨ret_bool (HV.out _ (.inl ⟨h, rfl⟩)), hb1.trans (hb2.mono hb1.size)⟩
  · have h : ¬ trimL s.data.toList = s.toList := by assumption
    go_ret
    exact ⟨ret_bool (HV.out _ (.inr ⟨h, rfl⟩)), hb1⟩

set_option maxHeartbeats 2000000 in
/-- P102: the document's answer for a value. -/
theorem refValue_any (s : ByteArray) (w : World) (hs : s.size ≤ 9223372036854775807) :
    Calls Tryd.prog 13 #[.string s] w fun e w' => e = .returned (.bool (valueS s.data.toList)) ∧ w = w' := by
  go_enter Tryd.func13, Tryd.ntmps13
  go_wp2
  go_loop [3] (fun i => ∃ k : Nat, k ≤ s.size ∧ i = .int .i64 k ∧ (s.data.toList.take k).all valB = true) (fun i => s.size - (intOf i).toNat)
  case atStart => exact ⟨0, Nat.zero_le _, rfl, by simp⟩
  case round =>
    obtain ⟨k, hk, rfl, hall⟩ := hrel
    have HA := Lib.hid hall
    clear hall
    by_cases hlt : k < s.size
    · have hb := s[k].toNat_lt
      cases hv : valB s[k] with
      | true =>
        have HR : Hid ((s.data.toList.take (k + 1)).all valB = true) := by show _ = _; rw [take_snoc s k hlt, List.all_append, HA.out]; simp [hv]
        unfold valB at hv
        by_cases h9 : s[k].toNat = 9
        · have h9' : (((s[k].toNat : Int) != 9)) = false := by rw [h9]; rfl
          clear hv h9
          go_wp2
          go_round
          case rel => exact ⟨k + 1, by omega, by go_num, HR.out⟩
          case measure => simp [intOf]; omega
        · simp [h9] at hv
          obtain ⟨h32, h127⟩ := hv
          have h9' : (((s[k].toNat : Int) != 9)) = true := by rw [bne_iff_ne]; omega
          have h127' : (((s[k].toNat : Int) == 127)) = false := by rw [beq_eq_false_iff_ne]; omega
          have h32' : 32 ≤ (s[k].toNat : Int) := by omega
          clear h9 h127
          go_wp2
          go_round
          case rel => exact ⟨k + 1, by omega, by go_num, HR.out⟩
          case measure => simp [intOf]; omega
      | false =>
        have HF : Hid (valueS s.data.toList = false) := by show _ = _; unfold valueS; rw [all_not s valB k hlt hv, Bool.and_false]
        unfold valB at hv
        simp at hv
        obtain ⟨h9, h2⟩ := hv
        have h9' : (((s[k].toNat : Int) != 9)) = true := by rw [bne_iff_ne]; omega
        clear h9
        by_cases h32 : 32 ≤ s[k].toNat
        · have h127 := h2 h32
          have h127' : (((s[k].toNat : Int) == 127)) = true := by rw [h127]; rfl
          have h32' : 32 ≤ (s[k].toNat : Int) := by omega
          clear h127 h2
          go_wp2
          go_ret
          exact ⟨ret_bool HF.out.symm, rfl⟩
        · have h32' : (s[k].toNat : Int) < 32 := by omega
          clear h2
          go_wp2
          go_ret
          exact ⟨ret_bool HF.out.symm, rfl⟩
    · obtain rfl : k = s.size := by omega
      have ha := HA.out
      rw [take_all] at ha
      by_cases hz : s.size = 0
      · have HF := Lib.hid (value_none s hz)
        have hz' : ((s.size : Int) == 0) = true := by rw [hz]; rfl
        clear ha
        have HZ := Lib.hid hz
        clear hz
        go_wp2
        go_ret
        exact ⟨ret_bool HF.out.symm, rfl⟩
      · have hp : 0 < s.size := by omega
        have hz' : ((s.size : Int) == 0) = false := by rw [beq_eq_false_iff_ne]; omega
        have HF := Lib.hid (value_ends s hp ha)
        clear ha hz
        cases hb0 : blankB (s[0]'hp) with
        | true =>
          rw [hb0] at HF
          have HB0 := fun w => Lib.hid (blank_any (s[0]'hp) w)
          rw [hb0] at HB0
          clear hb0
          go_wp2_with (go_at_call 44; refine (HB0 _).out.mono ?_; rintro e w1 ⟨rfl, rfl⟩)
          go_ret
          exact ⟨ret_bool HF.out.symm, rfl⟩
        | false =>
          rw [hb0] at HF
          have HB0 := fun w => Lib.hid (blank_any (s[0]'hp) w)
          rw [hb0] at HB0
          have HB1 := fun w => Lib.hid (blank_any (s[s.size - 1]'(by omega)) w)
          clear hb0
          go_wp2_with fail
          refine (HB0 _).out.mono ?_
          rintro e w1 ⟨rfl, rfl⟩
          go_wp2_with fail
          refine (HB1 _).out.mono ?_
          rintro e w1 ⟨rfl, rfl⟩
          go_wp2_with fail
          go_ret
          exact ⟨ret_bool HF.out.symm, rfl⟩

end Go.Proofs.YtaibehfpbcgijaaDoor.Asc
