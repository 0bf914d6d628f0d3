/- Contracts of package ascii's Digits and HexDigits, and that a number that is written is read as it was. -/
import Derived.Test.YtbekebdgmgjpgaaDoorAscL
import Derived.Lib.ItoaNum
namespace Go.Proofs.YtbekebdgmgjpgaaDoor.Asc
open Go.RowKit

theorem NumTabs.below {w w' : World} (h : NumTabs w) (hb : Below w.heap.size w w') : NumTabs w' := by
  have hg : Tryd.prog.globalNamed "internal/strconv.uint64pow10" = some 2 := by kernel_rfl
  have hc := h.pow.cell hg 0 (by simp [Lib.pow10Tab])
  exact ⟨var?_below hb hg (block_lt_of_cell hc) h.pow, (hb.cell (p := ⟨6, 15, none⟩) (block_lt_of_cell h.tz)).trans h.tz⟩

/-- The number that HexDigits writes: of n below 0 that of 2 to the 64th more. -/
def hexN (n : Int) : Nat := (IntKind.u64.wrap n).toNat
theorem hexN_lt (n : Int) : hexN n < 18446744073709551616 := by unfold hexN; rw [IntKind.wrap_u64]; omega
theorem hexN_eq (n : Int) : ((hexN n : Nat) : Int) = IntKind.u64.wrap n := by unfold hexN; rw [IntKind.wrap_u64]; omega
theorem hexN_pos (n : Int) (h0 : 0 ≤ n) (h1 : n ≤ 1152921504606846976) : hexN n = n.toNat := by unfold hexN; rw [IntKind.wrap_u64]; omega

set_option maxRecDepth 100000 in
set_option maxHeartbeats 1000000 in
theorem hexDigits_any (n : Int) (w : World) (h : NumTabs w) : Calls Tryd.prog 31 #[.int .i64 n] w fun e w' => e = .returned (.string ⟨(hexL (hexN n)).toArray⟩) ∧ Below w.heap.size w w' := by
  have hc := fmt16 (hexN n) (hexN_lt n) w h.tz
  rw [hexN_eq n] at hc
  have H1 : Hid (Calls Tryd.prog 81 #[.int .u64 (IntKind.u64.wrap n), .int .i64 16] w fun e w' => e = .returned (.string ⟨(hexL (hexN n)).toArray⟩) ∧ Below w.heap.size w w') := by
    have HC := Lib.hid hc
    clear hc
    show Calls _ _ _ _ _
    generalize (⟨(hexL (hexN n)).toArray⟩ : ByteArray) = r at HC ⊢
    generalize IntKind.u64.wrap n = u at HC ⊢
    go_enter Tryd.func81, Tryd.ntmps81
    go_wp2_with (go_at_call 98; refine HC.out.mono ?_; rintro e w1 ⟨rfl, hb1⟩)
    go_ret
    exact ⟨rfl, hb1⟩
  have H2 : Hid (Calls Tryd.prog 52 #[.int .u64 (IntKind.u64.wrap n), .int .i64 16] w fun e w' => e = .returned (.string ⟨(hexL (hexN n)).toArray⟩) ∧ Below w.heap.size w w') := by
    clear hc
    show Calls _ _ _ _ _
    generalize (⟨(hexL (hexN n)).toArray⟩ : ByteArray) = r at H1 ⊢
    generalize IntKind.u64.wrap n = u at H1 ⊢
    go_enter Tryd.func52, Tryd.ntmps52
    go_wp2_with (go_at_call 81; refine H1.out.mono ?_; rintro e w1 ⟨rfl, hb1⟩)
    go_ret
    exact ⟨rfl, hb1⟩
  clear hc H1
  generalize (⟨(hexL (hexN n)).toArray⟩ : ByteArray) = r at H2 ⊢
  go_enter Tryd.func31, Tryd.ntmps31
  go_wp2_with (go_at_call 52; refine H2.out.mono ?_; rintro e w1 ⟨rfl, hb1⟩)
  go_ret
  exact ⟨rfl, hb1⟩

set_option maxRecDepth 100000 in
set_option maxHeartbeats 1000000 in
theorem digits_any (n : Int) (h0 : -9223372036854775808 ≤ n) (h1 : n ≤ 9223372036854775807) (w : World) (h : NumTabs w) :
    Calls Tryd.prog 29 #[.int .i64 n] w fun e w' => e = .returned (.string ⟨(Lib.itoa n).toArray⟩) ∧ Below w.heap.size w w' := by
  have hc : Calls Tryd.prog 51 #[.int .i64 n] w fun e w' => e = .returned (.string ⟨(Lib.itoa n).toArray⟩) ∧ Below w.heap.size w w' :=
    (Any.strconv_Itoa Tryd.laysItoa n h0 h1 w h.pow).mono fun e w' ⟨he, k, os, hw⟩ => ⟨he, by rw [hw]; exact Lib.below_grow _ _ (Nat.le_refl _) _ _⟩
  have HC := Lib.hid hc
  clear hc h0 h1 h
  generalize (⟨(Lib.itoa n).toArray⟩ : ByteArray) = r at HC ⊢
  go_enter Tryd.func29, Tryd.ntmps29
  go_wp2_with (go_at_call 51; refine HC.out.mono ?_; rintro e w1 ⟨rfl, hb1⟩)
  go_ret
  exact ⟨rfl, hb1⟩

theorem valL_one (r : Nat) (c : UInt8) : valL r [c] = digB c := by unfold valL; simp
theorem digB_ten (d : Nat) (h : d < 10) : digB (UInt8.ofNat (48 + d)) = d := by
  have H : ∀ i : Fin 10, digB (UInt8.ofNat (48 + i.1)) = i.1 := by decide +kernel
  exact H ⟨d, h⟩
theorem digB_hex (d : Nat) (h : d < 16) : digB (hexC d) = d := by
  have H : ∀ i : Fin 16, digB (hexC i.1) = i.1 := by decide +kernel
  exact H ⟨d, h⟩
theorem dec_back (f : Nat) : ∀ u, u < 10 ^ f → valL 10 (Lib.decDigits u) = u ∧ (∀ c ∈ Lib.decDigits u, digB c < 10) ∧ Lib.decDigits u ≠ [] := by
  induction f with
  | zero =>
    intro u h
    have : u = 0 := by simpa using h
    subst this
    rw [Lib.decDigits_one (by omega)]
    exact ⟨by rw [valL_one, digB_ten 0 (by omega)], fun c hc => by obtain rfl := List.mem_singleton.1 hc; rw [digB_ten 0 (by omega)]; omega, by simp⟩
  | succ f ih =>
    intro u h
    by_cases hu : u < 10
    · rw [Lib.decDigits_one hu]
      exact ⟨by rw [valL_one, digB_ten u hu], fun c hc => by obtain rfl := List.mem_singleton.1 hc; rw [digB_ten u hu]; exact hu, by simp⟩
    · obtain ⟨h1, h2, h3⟩ := ih (u / 10) (by rw [Nat.pow_succ] at h; omega)
      have hm : u % 10 < 10 := Nat.mod_lt _ (by omega)
      rw [Lib.decDigits, dif_neg hu]
      refine ⟨?_, fun c hc => ?_, by simp⟩
      · rw [valL_snoc, h1, digB_ten _ hm]; omega
      · rcases List.mem_append.1 hc with hc | hc
        · exact h2 c hc
        · obtain rfl := List.mem_singleton.1 hc; rw [digB_ten _ hm]; exact hm
theorem hex_back (f : Nat) : ∀ u, u < 16 ^ f → 0 < f → valL 16 (hexF f u) = u ∧ (∀ c ∈ hexF f u, digB c < 16) ∧ hexF f u ≠ [] := by
  induction f with
  | zero => intro u _ h; omega
  | succ f ih =>
    intro u h _
    by_cases hu : u < 16
    · rw [hexF_small _ _ hu]
      exact ⟨by rw [valL_one, digB_hex u hu], fun c hc => by obtain rfl := List.mem_singleton.1 hc; rw [digB_hex u hu]; exact hu, by simp⟩
    · have hf : 0 < f := by
        rcases Nat.eq_zero_or_pos f with e | e
        · subst e; simp at h; omega
        · exact e
      obtain ⟨h1, h2, h3⟩ := ih (u / 16) (by rw [Nat.pow_succ] at h; omega) hf
      have hm : u % 16 < 16 := Nat.mod_lt _ (by omega)
      rw [hexF_big _ _ (by omega)]
      refine ⟨?_, fun c hc => ?_, by simp⟩
      · rw [valL_snoc, h1, digB_hex _ hm]; omega
      · rcases List.mem_append.1 hc with hc | hc
        · exact h2 c hc
        · obtain rfl := List.mem_singleton.1 hc; rw [digB_hex _ hm]; exact hm
theorem numL_of (r most u : Nat) (l : List UInt8) (h1 : valL r l = u) (h2 : ∀ c ∈ l, digB c < r) (h3 : l ≠ []) (hm : u ≤ most) : numL r most l = (u, 0) := by
  unfold numL
  rw [if_neg, h1, if_neg (by omega)]
  rw [Bool.or_eq_true, List.any_eq_true]
  rintro (h | ⟨x, hx, hd⟩)
  · exact h3 (List.isEmpty_iff.1 h)
  · have := of_decide_eq_true hd
    have := h2 x hx
    omega
theorem dec_read (n : Int) (h0 : 0 ≤ n) (h1 : n ≤ 1000000000000000000) : numL 10 1000000000000000000 (Lib.itoa n) = (n.toNat, 0) := by
  unfold Lib.itoa
  rw [if_neg (by omega)]
  obtain ⟨a, b, c⟩ := dec_back 19 n.toNat (by omega)
  exact numL_of _ _ _ _ a b c (by omega)
theorem hex_read (n : Int) (h0 : 0 ≤ n) (h1 : n ≤ 1152921504606846976) : numL 16 1152921504606846976 (hexL (hexN n)) = (n.toNat, 0) := by
  rw [hexN_pos n h0 h1]
  obtain ⟨a, b, c⟩ := hex_back 16 n.toNat (by omega) (by omega)
  exact numL_of _ _ _ _ a b c (by omega)

end Go.Proofs.YtbekebdgmgjpgaaDoor.Asc
