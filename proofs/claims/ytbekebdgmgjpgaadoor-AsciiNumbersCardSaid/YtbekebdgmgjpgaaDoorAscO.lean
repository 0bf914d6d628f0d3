/- Contracts of the document's answers for numbers written. -/
import Derived.Test.YtbekebdgmgjpgaaDoorAscN
import Derived.Lib.Strings
namespace Go.Proofs.YtbekebdgmgjpgaaDoor.Asc
open Go.RowKit

theorem one_back (W : World) (c : UInt8) (x : Int) (hx : x = (c.toNat : Int)) : (convert 45 9 (.slice (some ⟨W.heap.size, 0, none⟩) 1 1)).run Tryd.prog (W.alloc (.cells #[.int .u8 x] 5)) = .ok (.string ⟨#[c]⟩) (W.alloc (.cells #[.int .u8 x] 5)) := by
  subst hx
  exact run_convert_bytes_back _ _ 9 5 ⟨W.heap.size, 0, none⟩ 1 [c] Tryd.underlying45 Tryd.underlying5 Tryd.underlying9 (fun j hj => by
      obtain rfl : j = 0 := by simp at hj; omega
      exact cell_of_row _ _ 0 _ _ _ (heap_alloc_new _ _))

theorem str_cons (c : UInt8) (l : List UInt8) : (⟨#[c]⟩ : ByteArray) ++ ⟨l.toArray⟩ = ⟨(c :: l).toArray⟩ := Go.ByteArray.mk_append_mk [c] l
theorem decLen (f : Nat) : ∀ u, u < 10 ^ (f + 1) → (Lib.decDigits u).length ≤ f + 1 := by
  induction f with
  | zero => intro u h; rw [Lib.decDigits_one (by omega)]; simp
  | succ f ih =>
    intro u h
    by_cases hu : u < 10
    · rw [Lib.decDigits_one hu]; simp
    · have := ih (u / 10) (by rw [Nat.pow_succ] at h; omega)
      rw [Lib.decDigits, dif_neg hu]
      simp
      omega
theorem chr_nat (v : Nat) : (UInt8.ofNat (48 + v % 10)).toNat = 48 + v % 10 := by
  rw [UInt8.toNat_ofNat']
  omega

set_option maxRecDepth 100000 in
set_option maxHeartbeats 1000000 in
theorem refDigits_pos (n : Nat) (h1 : n ≤ 9223372036854775807) (w : World) :
    Calls Tryd.prog 30 #[.int .i64 (n : Int)] w fun e w' => e = .returned (.string ⟨(Lib.decDigits n).toArray⟩) ∧ Below w.heap.size w w' := by
  have hni : (n : Int) ≤ 9223372036854775807 := by omega
  go_enter Tryd.func30, Tryd.ntmps30
  go_wp2
  go_loopw [0, 4] (fun a b wr => ∃ (v : Nat) (suf : List UInt8), a = .int .i64 (v : Int) ∧ b = .string ⟨suf.toArray⟩ ∧ v ≤ n ∧ Lib.decDigits n = Lib.decDigits v ++ suf ∧ Below w.heap.size w wr) (fun a _ _ => (intOf a).toNat)
  case atStart => exact ⟨n, [], rfl, rfl, Nat.le_refl _, by simp, Below.refl _ _⟩
  case round =>
    obtain ⟨v, suf, rfl, rfl, hvn, hd, hbe⟩ := hrel
    have HD := Lib.hid hd
    have HB := Lib.hid hbe
    have hbs := hbe.size
    clear hd hbe
    have hvi : (v : Int) ≤ 9223372036854775807 := by omega
    have hsl : suf.length ≤ 20 := by
      have h2 := congrArg List.length HD.out
      have h3 := decLen 19 n (by omega)
      rw [List.length_append] at h2
      omega
    have hcv := one_back wr (UInt8.ofNat (48 + v % 10)) (48 + (v : Int) % 10) (by rw [chr_nat]; omega)
    have HN : Hid (10 ≤ v → Lib.decDigits n = Lib.decDigits (v / 10) ++ (UInt8.ofNat (48 + v % 10) :: suf)) := fun h => by
      rw [HD.out, Lib.decDigits, dif_neg (by omega), List.append_assoc]; rfl
    have HE : Hid (v < 10 → Lib.decDigits n = UInt8.ofNat (48 + v % 10) :: suf) := fun h => by
      rw [HD.out, Lib.decDigits_one h, show v % 10 = v by omega]; rfl
    generalize UInt8.ofNat (48 + v % 10) = c at hcv HN HE
    by_cases hv : v < 10
    · have hz : ((v : Int) / 10 == 0) = true := by rw [beq_iff_eq]; omega
      have HS := Lib.hid (HE.out hv)
      clear HN HE
      go_wp2
      go_ret
      refine ⟨?_, HB.out.alloc hbs _⟩
      rw [HS.out]
      exact congrArg (fun x => Ending.returned (Value.string x)) (str_cons c suf)
    · have hz : ((v : Int) / 10 == 0) = false := by rw [beq_eq_false_iff_ne]; omega
      have HS := Lib.hid (HN.out (by omega))
      clear HN HE
      go_wp2
      go_roundw
      case rel => exact ⟨v / 10, c :: suf, by go_num, congrArg Value.string (str_cons c suf), by omega, HS.out, HB.out.alloc hbs _⟩
      case measure => simp [intOf]; omega

set_option maxRecDepth 100000 in
set_option maxHeartbeats 1000000 in
theorem refDigits_neg (n : Nat) (h0 : 1 ≤ n) (h1 : n ≤ 9223372036854775808) (w : World) :
    Calls Tryd.prog 30 #[.int .i64 (-(n : Int))] w fun e w' => e = .returned (.string ⟨(45 :: Lib.decDigits n).toArray⟩) ∧ Below w.heap.size w w' := by
  have hni : -9223372036854775808 ≤ -(n : Int) := by omega
  have hn0 : -(n : Int) < 0 := by omega
  go_enter Tryd.func30, Tryd.ntmps30
  go_wp2
  go_loopw [0, 4] (fun a b wr => ∃ (v : Nat) (suf : List UInt8), a = .int .i64 (-(v : Int)) ∧ b = .string ⟨suf.toArray⟩ ∧ v ≤ n ∧ Lib.decDigits n = Lib.decDigits v ++ suf ∧ Below w.heap.size w wr) (fun a _ _ => (-(intOf a)).toNat)
  case atStart => exact ⟨n, [], rfl, rfl, Nat.le_refl _, by simp, Below.refl _ _⟩
  case round =>
    obtain ⟨v, suf, rfl, rfl, hvn, hd, hbe⟩ := hrel
    have HD := Lib.hid hd
    have HB := Lib.hid hbe
    have hbs := hbe.size
    clear hd hbe
    have hvi : -9223372036854775808 ≤ -(v : Int) := by omega
    have hsl : suf.length ≤ 20 := by
      have h2 := congrArg List.length HD.out
      have h3 := decLen 19 n (by omega)
      rw [List.length_append] at h2
      omega
    have hmod : (-(v : Int)).tmod 10 = -((v % 10 : Nat) : Int) := by
      rw [Int.neg_tmod]; rfl
    have hdiv : (-(v : Int)).tdiv 10 = -((v / 10 : Nat) : Int) := by
      rw [Int.neg_tdiv]; rfl
    by_cases hm : 0 < v % 10
    · have hcv := one_back wr (UInt8.ofNat (48 + v % 10)) (48 + (v : Int) % 10) (by rw [chr_nat]; omega)
      have HN : Hid (10 ≤ v → Lib.decDigits n = Lib.decDigits (v / 10) ++ (UInt8.ofNat (48 + v % 10) :: suf)) := fun h => by
        rw [HD.out, Lib.decDigits, dif_neg (by omega), List.append_assoc]; rfl
      have HE : Hid (v < 10 → Lib.decDigits n = UInt8.ofNat (48 + v % 10) :: suf) := fun h => by
        rw [HD.out, Lib.decDigits_one h, show v % 10 = v by omega]; rfl
      generalize UInt8.ofNat (48 + v % 10) = c at hcv HN HE
      by_cases hv : v < 10
      · have hz : (-((v : Int) / 10) == 0) = true := by rw [beq_iff_eq]; omega
        have hz2 : ((v : Int) / 10 == 0) = true := by rw [beq_iff_eq]; omega
        have HS := Lib.hid (HE.out hv)
        clear HN HE
        go_wp2
        go_ret
        refine ⟨?_, HB.out.alloc hbs _⟩
        rw [HS.out, ← str_cons, ← str_cons]
        rfl
      · have hz : (-((v : Int) / 10) == 0) = false := by rw [beq_eq_false_iff_ne]; omega
        have hz2 : ((v : Int) / 10 == 0) = false := by rw [beq_eq_false_iff_ne]; omega
        have HS := Lib.hid (HN.out (by omega))
        clear HN HE
        go_wp2
        go_roundw
        case rel => exact ⟨v / 10, c :: suf, by go_num, congrArg Value.string (str_cons c suf), by omega, HS.out, HB.out.alloc hbs _⟩
        case measure => simp [intOf]; omega
    · have hcv := one_back wr (UInt8.ofNat (48 + v % 10)) (48 + -((v : Int) % 10)) (by rw [chr_nat]; omega)
      have HN : Hid (10 ≤ v → Lib.decDigits n = Lib.decDigits (v / 10) ++ (UInt8.ofNat (48 + v % 10) :: suf)) := fun h => by
        rw [HD.out, Lib.decDigits, dif_neg (by omega), List.append_assoc]; rfl
      have HE : Hid (v < 10 → Lib.decDigits n = UInt8.ofNat (48 + v % 10) :: suf) := fun h => by
        rw [HD.out, Lib.decDigits_one h, show v % 10 = v by omega]; rfl
      generalize UInt8.ofNat (48 + v % 10) = c at hcv HN HE
      by_cases hv : v < 10
      · have hz : (-((v : Int) / 10) == 0) = true := by rw [beq_iff_eq]; omega
        have hz2 : ((v : Int) / 10 == 0) = true := by rw [beq_iff_eq]; omega
        have HS := Lib.hid (HE.out hv)
        clear HN HE
        go_wp2
        go_ret
        refine ⟨?_, HB.out.alloc hbs _⟩
        rw [HS.out, ← str_cons, ← str_cons]
        rfl
      · have hz : (-((v : Int) / 10) == 0) = false := by rw [beq_eq_false_iff_ne]; omega
        have hz2 : ((v : Int) / 10 == 0) = false := by rw [beq_eq_false_iff_ne]; omega
        have HS := Lib.hid (HN.out (by omega))
        clear HN HE
        go_wp2
        go_roundw
        case rel => exact ⟨v / 10, c :: suf, by go_num, congrArg Value.string (str_cons c suf), by omega, HS.out, HB.out.alloc hbs _⟩
        case measure => simp [intOf]; omega

theorem refDigits_any (n : Int) (h0 : -9223372036854775808 ≤ n) (h1 : n ≤ 9223372036854775807) (w : World) :
    Calls Tryd.prog 30 #[.int .i64 n] w fun e w' => e = .returned (.string ⟨(Lib.itoa n).toArray⟩) ∧ Below w.heap.size w w' := by
  by_cases h : n < 0
  · have := refDigits_neg n.natAbs (by omega) (by omega) w
    rw [show -((n.natAbs : Nat) : Int) = n by omega] at this
    rw [show Lib.itoa n = 45 :: Lib.decDigits n.natAbs from if_pos h]
    exact this
  · have := refDigits_pos n.toNat (by omega) w
    rw [show ((n.toNat : Nat) : Int) = n by omega] at this
    rw [show Lib.itoa n = Lib.decDigits n.toNat from if_neg h]
    exact this

theorem hexS_at (d : Nat) (h : d < 16) : (⟨#[48, 49, 50, 51, 52, 53, 54, 55, 56, 57, 97, 98, 99, 100, 101, 102]⟩ : ByteArray).extract d (d + 1) = ⟨#[hexC d]⟩ := by
  have H : ∀ i : Fin 16, (⟨#[48, 49, 50, 51, 52, 53, 54, 55, 56, 57, 97, 98, 99, 100, 101, 102]⟩ : ByteArray).extract i.1 (i.1 + 1) = ⟨#[hexC i.1]⟩ := by decide +kernel
  exact H ⟨d, h⟩

set_option maxRecDepth 100000 in
set_option maxHeartbeats 1000000 in
theorem refHexD_any (n : Int) (w : World) :
    Calls Tryd.prog 32 #[.int .i64 n] w fun e w' => e = .returned (.string ⟨(hexL (hexN n)).toArray⟩) ∧ w = w' := by
  have hu := hexN_lt n
  have he := hexN_eq n
  generalize hexN n = u at hu he ⊢
  have HU := Lib.hid hu
  have hn : IntKind.u64.wrap n = (u : Int) := he.symm
  clear hu he
  go_enter Tryd.func32, Tryd.ntmps32
  go_wp2
  clear hn
  go_loop [3, 5] (fun a b => ∃ (v : Nat) (suf : List UInt8), a = .int .u64 (v : Int) ∧ b = .string ⟨suf.toArray⟩ ∧ suf.length ≤ 15 ∧ v * 16 ^ suf.length ≤ u ∧ hexL u = hexF (16 - suf.length) v ++ suf) (fun a _ => (intOf a).toNat)
  case atStart => exact ⟨u, [], rfl, rfl, by simp, by simp, by simp [hexL]⟩
  case round =>
    obtain ⟨v, suf, rfl, rfl, hsl, hp, hx⟩ := hrel
    have hvu : v ≤ u := Nat.le_trans (Nat.le_mul_of_pos_right v (Nat.pow_pos (by omega))) hp
    have hvi : (v : Int) ≤ 18446744073709551615 := by have := HU.out; omega
    have hm : v % 16 < 16 := Nat.mod_lt _ (by omega)
    have hat := hexS_at (v % 16) hm
    have HX := Lib.hid hx
    have HP := Lib.hid hp
    clear hx hp hvu
    by_cases hv : v < 16
    · have hz : ((v : Int) / 16 == 0) = true := by rw [beq_iff_eq]; omega
      have HS : Hid (hexL u = hexC (v % 16) :: suf) := by
        show _ = _
        rw [HX.out, show 16 - suf.length = (15 - suf.length) + 1 by omega, hexF_small _ _ hv, Nat.mod_eq_of_lt hv]
        rfl
      go_wp2
      go_ret
      refine ⟨?_, rfl⟩
      rw [HS.out]
      exact congrArg (fun x => Ending.returned (Value.string x)) (str_cons _ suf)
    · have hz : ((v : Int) / 16 == 0) = false := by rw [beq_eq_false_iff_ne]; omega
      have hn14 := pow_lt v _ u (by omega) HP.out HU.out
      have HS : Hid (hexL u = hexF (16 - (suf.length + 1)) (v / 16) ++ (hexC (v % 16) :: suf)) := by
        show _ = _
        rw [HX.out, show 16 - suf.length = (16 - (suf.length + 1)) + 1 by omega, hexF_big _ _ (by omega), List.append_assoc]
        rfl
      have HQ : Hid (v / 16 * 16 ^ (suf.length + 1) ≤ u) := by
        show _ ≤ _
        rw [Nat.pow_succ, Nat.mul_comm (16 ^ suf.length) 16, ← Nat.mul_assoc]
        exact Nat.le_trans (Nat.mul_le_mul_right _ (Nat.div_mul_le_self v 16)) HP.out
      go_wp2
      go_round
      case rel => exact ⟨v / 16, hexC (v % 16) :: suf, by go_num, congrArg Value.string (str_cons _ suf), by simp; omega, HQ.out, HS.out⟩
      case measure => simp [intOf]; omega

end Go.Proofs.YtbekebdgmgjpgaaDoor.Asc
