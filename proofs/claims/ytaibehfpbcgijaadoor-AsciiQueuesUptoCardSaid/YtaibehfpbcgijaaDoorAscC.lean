/- Contracts of package ascii's all and Token, and of the document's answers for Token and Value. -/
import Derived.Test.YtaibehfpbcgijaaDoorAscB
namespace Go.Proofs.YtaibehfpbcgijaaDoor.Asc
open Go.RowKit

def clsB (c : Nat) (b : UInt8) : Bool := (fB 77 b.toNat &&& c) != 0
theorem fB_form (n : Nat) (h : n < 256) : fB 77 n = 0 ∨ fB 77 n = 2 ∨ fB 77 n = 3 := by
  have H : ∀ i : Fin 256, fB 77 i.1 = 0 ∨ fB 77 i.1 = 2 ∨ fB 77 i.1 = 3 := by decide +kernel
  exact H ⟨n, h⟩
theorem bits_cls (c : Nat) (hc : c = 1 ∨ c = 2) (b : UInt8) : (bits BinOp.and IntKind.u8 (fB 77 b.toNat : Int) (c : Int) == 0) = !(clsB c b) := by
  unfold clsB
  rcases hc with rfl | rfl <;> rcases fB_form b.toNat b.toNat_lt with h | h | h <;> rw [h] <;> rfl
theorem clsB_tok (b : UInt8) : clsB 1 b = tokB b := by
  have H : ∀ i : Fin 256, clsB 1 (UInt8.ofNat i.1) = tokB (UInt8.ofNat i.1) := by decide +kernel
  have := H ⟨b.toNat, b.toNat_lt⟩
  simpa using this
theorem clsB_val (b : UInt8) : clsB 2 b = valB b := by
  have H : ∀ i : Fin 256, clsB 2 (UInt8.ofNat i.1) = valB (UInt8.ofNat i.1) := by decide +kernel
  have := H ⟨b.toNat, b.toNat_lt⟩
  simpa using this

def allS (c : Nat) (l : List UInt8) : Bool := l.all (clsB c)
theorem take_snoc (s : ByteArray) (k : Nat) (h : k < s.size) : s.data.toList.take (k + 1) = s.data.toList.take k ++ [s[k]] := by
  rw [List.take_succ_eq_append_getElem (by simpa using h)]; rfl
theorem take_all (s : ByteArray) : s.data.toList.take s.size = s.data.toList := List.take_of_length_le (Nat.le_of_eq rfl)
theorem mem_at (s : ByteArray) (k : Nat) (h : k < s.size) : s[k] ∈ s.data.toList := List.getElem_mem (l := s.data.toList) (h := by simpa using h)
theorem all_not (s : ByteArray) (p : UInt8 → Bool) (k : Nat) (h : k < s.size) (hp : p s[k] = false) : s.data.toList.all p = false := by
  rw [List.all_eq_false]
  exact ⟨_, mem_at s k h, by simp [hp]⟩

set_option maxHeartbeats 1000000 in
theorem all_any (s : ByteArray) (c : Nat) (hc : c = 1 ∨ c = 2) (w : World) (hs : s.size ≤ 9223372036854775807) :
    Calls Tryd.prog 41 #[.string s, .int .u8 (c : Int)] w fun e w' => e = .returned (.bool (allS c s.data.toList)) ∧ Below w.heap.size w w' := by
  have HC := Lib.hid hc
  clear hc
  go_enter Tryd.func41, Tryd.ntmps41
  go_wp2_with (first
    | (go_at_call 68; refine (classes_any _).mono ?_; rintro e w1 ⟨rfl, hb1⟩)
    | (refine wpList_store_row rfl 92 _ _ rfl w1.heap.size (cls (fB 77)) rfl rfl 92 _ (heap_alloc_new _ _) (by rw [cls_size]; exact info92) (by rw [zero0, cls_size, cls_size]) (cls_one _) ?_; rw [World.setRow_alloc_new]))
  have hB : Below w.heap.size w (w1.alloc (.cells (cls (fB 77)) 92)) := hb1.alloc hb1.size _
  have hcell : ∀ i, (w1.alloc (.cells (cls (fB 77)) 92)).cell? ⟨w1.heap.size, i, none⟩ = (cls (fB 77))[i]? := fun i => cell_of_row _ _ _ _ _ (0, 0) (heap_alloc_new _ _)
  obtain ⟨W, hW⟩ : ∃ W, w1.alloc (.cells (cls (fB 77)) 92) = W := ⟨_, rfl⟩
  rw [hW] at hB hcell ⊢
  clear hW
  have HB := Lib.hid hB
  have HCell := Lib.hid hcell
  clear hB hcell
  go_loop [10] (fun i => ∃ k : Nat, k ≤ s.size ∧ i = .int .i64 k ∧ (s.data.toList.take k).all (clsB c) = true) (fun i => s.size - (intOf i).toNat)
  case atStart => exact ⟨0, Nat.zero_le _, rfl, by simp⟩
  case round =>
    obtain ⟨k, hk, rfl, hall⟩ := hrel
    have HA := Lib.hid hall
    clear hall
    by_cases hlt : k < s.size
    · have hb := s[k].toNat_lt
      have hc1 := HCell.out s[k].toNat
      rw [cls_at _ _ hb] at hc1
      have hbits := bits_cls c HC.out s[k]
      cases hcl : clsB c s[k] with
      | true =>
        have HCl := Lib.hid hcl
        rw [hcl, Bool.not_true] at hbits
        clear hcl
        go_wp2
        go_round
        case rel => exact ⟨k + 1, by omega, by go_num, by rw [take_snoc s k hlt, List.all_append, HA.out]; simp [HCl.out]⟩
        case measure => simp [intOf]; omega
      | false =>
        have HCl := Lib.hid (all_not s (clsB c) k hlt hcl)
        rw [hcl, Bool.not_false] at hbits
        clear hcl
        go_wp2
        go_ret
        exact ⟨ret_bool HCl.out.symm, HB.out⟩
    · obtain rfl : k = s.size := by omega
      go_wp2
      go_ret
      refine ⟨ret_bool ?_, HB.out⟩
      have := HA.out
      rw [take_all] at this
      exact this.symm

/-- P102: what a token is. -/
def tokenS (l : List UInt8) : Bool := !l.isEmpty && l.all tokB
theorem allS_tok (l : List UInt8) : allS 1 l = l.all tokB := by unfold allS; congr 1; funext b; exact clsB_tok b
theorem allS_val (l : List UInt8) : allS 2 l = l.all valB := by unfold allS; congr 1; funext b; exact clsB_val b

set_option maxHeartbeats 1000000 in
theorem token_any (s : ByteArray) (w : World) (hs : s.size ≤ 9223372036854775807) :
    Calls Tryd.prog 10 #[.string s] w fun e w' => e = .returned (.bool (tokenS s.data.toList)) ∧ Below w.heap.size w w' := by
  have HE := Lib.hid (allS_tok s.data.toList)
  have hcon := all_any s 1 (.inl rfl) w hs
  cases hz : s.data.toList.isEmpty with
  | true =>
    have H : Hid (tokenS s.data.toList = false) := by show _ = _; unfold tokenS; rw [hz]; rfl
    have h1 : s.data.toList = [] := List.isEmpty_iff.1 hz
    have h2 : s = ⟨#[]⟩ := by
      rw [← Lib.mk_data s, h1]
    clear hcon
    have H2 := Lib.hid h2
    clear hz h1 h2
    rw [H2.out] at H ⊢
    clear HE H2
    go_enter Tryd.func10, Tryd.ntmps10
    go_wp2
    go_ret
    exact ⟨ret_bool H.out.symm, Below.refl _ _⟩
  | false =>
    have H : Hid (tokenS s.data.toList = allS 1 s.data.toList) := by show _ = _; unfold tokenS; rw [hz, HE.out]; rfl
    have HCon := Lib.hid hcon
    clear hcon HE
    have hz1 : s.toList.isEmpty = false := by rw [Lib.toList_data]; exact hz
    have hz2 : (!s.toList.isEmpty) = true := by rw [hz1]; rfl
    go_enter Tryd.func10, Tryd.ntmps10
    go_wp2_with (go_at_call 41; refine HCon.out.mono ?_; rintro e w1 ⟨rfl, hb1⟩)
    go_ret
    exact ⟨ret_bool H.out.symm, hb1⟩

theorem ref_tok (c : UInt8) (h : ∀ x ∈ tokL, c.toNat ≠ x) : tokB c = letB c := by
  unfold tokB
  have : tokL.contains c.toNat = false := by
    rw [← Bool.not_eq_true, List.contains_iff_mem]
    exact fun hm => h _ hm rfl
  rw [this, Bool.or_false]

set_option maxHeartbeats 2000000 in
/-- P102: the document's answer for a token. -/
theorem refToken_any (s : ByteArray) (w : World) (hs : s.size ≤ 9223372036854775807) :
    Calls Tryd.prog 11 #[.string s] w fun e w' => e = .returned (.bool (tokenS s.data.toList)) ∧ w = w' := by
  go_enter Tryd.func11, Tryd.ntmps11
  go_wp2
  go_loop [3] (fun i => ∃ k : Nat, k ≤ s.size ∧ i = .int .i64 k ∧ (s.data.toList.take k).all tokB = true) (fun i => s.size - (intOf i).toNat)
  case atStart => exact ⟨0, Nat.zero_le _, rfl, by simp⟩
  case round =>
    obtain ⟨k, hk, rfl, hall⟩ := hrel
    have HA := Lib.hid hall
    clear hall
    by_cases hlt : k < s.size
    · by_cases hm : s[k].toNat ∈ tokL
      · have HT : Hid (tokB s[k] = true) := by show _ = _; unfold tokB; rw [List.contains_iff_mem.2 hm, Bool.or_true]
        have HR : Hid ((s.data.toList.take (k + 1)).all tokB = true) := by show _ = _; rw [take_snoc s k hlt, List.all_append, HA.out]; simp [HT.out]
        clear HT
        generalize hc : s[k].toNat = n at hm
        simp only [tokL, List.mem_cons, List.mem_nil_iff, or_false] at hm
        rcases hm with rfl | rfl | rfl | rfl | rfl | rfl | rfl | rfl | rfl | rfl | rfl | rfl | rfl | rfl | rfl
        all_goals
          go_wp2
          go_round
          case rel => exact ⟨k + 1, by omega, by go_num, HR.out⟩
          case measure => simp [intOf]; omega
      · have H : Hid (tokB s[k] = letB s[k]) := ref_tok _ fun x hx e => hm (e ▸ hx)
        have hne : ∀ x ∈ tokL, (((s[k].toNat : Int) == (x : Int)) = false) := fun x hx => by
          rw [beq_eq_false_iff_ne]
          intro e
          exact hm (by rw [show s[k].toNat = x from by omega]; exact hx)
        have n1 := hne 33 (by decide)
        have n2 := hne 35 (by decide)
        have n3 := hne 36 (by decide)
        have n4 := hne 37 (by decide)
        have n5 := hne 38 (by decide)
        have n6 := hne 39 (by decide)
        have n7 := hne 42 (by decide)
        have n8 := hne 43 (by decide)
        have n9 := hne 45 (by decide)
        have n10 := hne 46 (by decide)
        have n11 := hne 94 (by decide)
        have n12 := hne 95 (by decide)
        have n13 := hne 96 (by decide)
        have n14 := hne 124 (by decide)
        have n15 := hne 126 (by decide)
        clear hne hm
        have HL := Lib.hid (letter_any s[k])
        cases hl : letB s[k] with
        | true =>
          rw [hl] at HL
          have HR : Hid ((s.data.toList.take (k + 1)).all tokB = true) := by show _ = _; rw [take_snoc s k hlt, List.all_append, HA.out]; simp [H.out, hl]
          clear hl H
          go_wp2_with (go_at_call 42; refine (HL.out _).mono ?_; rintro e w1 ⟨rfl, rfl⟩)
          go_round
          case rel => exact ⟨k + 1, by omega, by go_num, HR.out⟩
          case measure => simp [intOf]; omega
        | false =>
          rw [hl] at HL
          have HF : Hid (tokenS s.data.toList = false) := by show _ = _; unfold tokenS; rw [all_not s tokB k hlt (by rw [H.out, hl]), Bool.and_false]
          clear hl H
          go_wp2_with (go_at_call 42; refine (HL.out _).mono ?_; rintro e w1 ⟨rfl, rfl⟩)
          go_ret
          exact ⟨ret_bool HF.out.symm, rfl⟩
    · obtain rfl : k = s.size := by omega
      have HF : Hid (tokenS s.data.toList = decide (0 < s.size)) := by
        show _ = _
        have := HA.out
        rw [take_all] at this
        unfold tokenS
        rw [this, Bool.and_true, Bool.eq_iff_iff]
        have hsz : s.size = s.data.toList.length := rfl
        rw [hsz]
        cases s.data.toList <;> simp
      go_wp2
      go_ret
      exact ⟨ret_bool HF.out.symm, rfl⟩

end Go.Proofs.YtaibehfpbcgijaaDoor.Asc
