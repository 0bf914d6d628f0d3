/- The document's own weight and Full: they answer as package huff's. -/
import Derived.Test.YtmmbadkkkjkgnaaDoorHufO
namespace Go.Proofs.YtmmbadkkkjkgnaaDoor.Huf
open Go.RowKit Go.Shelf Go.Lib Go.Proofs.YtmmbadkkkjkgnaaDoor.Mem

theorem weightR_out {l : List Int} {i : Nat} (hi : i < l.length) (h : okLen (numAt l i) = false) : (weightR l).2 = false := by
  unfold weightR
  rw [if_neg (fun q => not_all_at l i hi h q.2)]
theorem w15_shl (n : Nat) (h0 : 0 < n) : (2 : Int) ^ (15 - n) = (w15 n : Int) := by
  rw [w15_pos h0, Int.natCast_pow]
  rfl

set_option maxHeartbeats 4000000 in
set_option maxRecDepth 100000 in
theorem refWeight_any (W : World) (v : Value) (l : List Int) (hs : SrcI W v l) (hl : l.length ≤ 17592186044416) :
    Calls Tryd.prog 25 #[v] W fun e w' => ∃ n : Int, e = .returned (.tuple #[.int .i64 n, .bool (weightR l).2]) ∧ Aside ((weightR l).2 = true → n = (weightR l).1) ∧ W = w' := by
  obtain ⟨ao, c, rfl, hao⟩ := hs.shape
  have HS : Aside (SrcI W (.slice ao l.length c) l) := hs
  have HL : Aside (0 < l.length → ∃ a, ao = some a) := hao
  clear hs hao
  go_enter Tryd.func25, Tryd.ntmps25
  go_wp2_with fail
  go_loopg [4, 5] l.length (fun kx s4 s5 wr => ∃ (i s : Nat), s5 = .int .i64 i ∧ s4 = .int .i64 s ∧ i ≤ l.length ∧ s ≤ 32768 * i ∧ l.length - i ≤ kx ∧ wr = W ∧ Aside ((l.take i).all okLen = true ∧ s = weightN (lenN l) i))
  case atStart => exact ⟨0, 0, rfl, rfl, Nat.zero_le _, Nat.zero_le _, Nat.le_refl _, rfl, rfl, rfl⟩
  case round =>
    obtain ⟨i, s, rfl, rfl, hi, hsb, hkx, rfl, HR⟩ := hrel
    by_cases hlt : i < l.length
    · obtain ⟨a, rfl⟩ := HL.out (by omega)
      have hc : wr.cell? (a.add i) = some (.int .i64 (numAt l i)) := by rw [numAt_eq l i hlt]; exact srci_cell HS.out i hlt
      obtain ⟨z, hz⟩ : ∃ z, z = numAt l i := ⟨_, rfl⟩
      rw [← hz] at hc
      have HZ := Lib.hid hz
      have hltz : (i : Int) < (l.length : Int) := by omega
      clear hz
      by_cases hneg : z < 0
      · go_wp2_with fail
        go_ret2
        have h0 : (weightR l).2 = false := weightR_out hlt (decide_eq_false (by rw [← HZ.out]; omega))
        exact ⟨0, by rw [h0]; rfl, fun h => (by rw [h0] at h; cases h), rfl⟩
      · by_cases hbig : z > 15
        · have hbig2 : (15 : Int) < z := hbig
          go_wp2_with fail
          go_ret2
          have h0 : (weightR l).2 = false := weightR_out hlt (decide_eq_false (by rw [← HZ.out]; omega))
          exact ⟨0, by rw [h0]; rfl, fun h => (by rw [h0] at h; cases h), rfl⟩
        · have hbig2 : ¬ (15 : Int) < z := hbig
          have hall : (l.take (i + 1)).all okLen = true := by
            rw [all_take l i hlt, HR.out.1, ← HZ.out]
            exact decide_eq_true (by omega)
          have HA : Aside _ := hall
          clear hall
          obtain ⟨n, hn⟩ : ∃ n : Nat, z = (n : Int) := ⟨z.toNat, by omega⟩
          subst hn
          obtain ⟨m, hm⟩ : ∃ m, m = w15 n := ⟨_, rfl⟩
          have hm2 : m ≤ 32768 := by rw [hm]; exact w15_le n
          have hst : s + m = weightN (lenN l) (i + 1) := by
            have h1 := HR.out.2
            unfold weightN at h1 ⊢
            have : lenN l i = n := by unfold lenN; rw [← HZ.out]; exact Int.toNat_natCast n
            simp only [sumN]
            rw [← h1, this, ← hm]
          have HST : Aside (s + m = weightN (lenN l) (i + 1)) := hst
          clear hst
          by_cases h0 : n = 0
          · subst h0
            have hm0 : m = 0 := by rw [hm]; rfl
            subst hm0
            clear hm
            go_wp2_with fail
            go_roundg (l.length - (i + 1))
            case measure => omega
            case rel => exact ⟨i + 1, s, by go_num, by go_num, by omega, by omega, Nat.le_refl _, rfl, HA.out, HST.out⟩
          · have hn0 : 0 < n := by omega
            have hnz : (0 : Int) < (n : Int) := by omega
            have hnz2 : (n : Int) > 0 := by omega
            obtain ⟨d, hd⟩ : ∃ d, d = 15 - n := ⟨_, rfl⟩
            have zw : (2 : Int) ^ d = (m : Int) := by rw [hd, w15_shl n hn0, hm]
            have wd : IntKind.i64.wrap ((15 : Int) - (n : Int)) = (d : Int) := by rw [IntKind.wrap_i64]; omega
            have wd2 : IntKind.u64.wrap (d : Int) = (d : Int) := by rw [IntKind.wrap_u64]; omega
            have wd3 : IntKind.i64.wrap (d : Int) = (d : Int) := by rw [IntKind.wrap_i64]; omega
            have zd : (15 : Int) - (n : Int) = (d : Int) := by omega
            have wsum : IntKind.i64.wrap ((s : Int) + (m : Int)) = (s : Int) + (m : Int) := by rw [IntKind.wrap_i64]; omega
            have wm : IntKind.i64.wrap (m : Int) = (m : Int) := by rw [IntKind.wrap_i64]; omega
            clear hm hd
            go_wp2_with fail
            go_roundg (l.length - (i + 1))
            case measure => omega
            case rel => exact ⟨i + 1, s + m, by go_num, by go_num, by omega, by omega, Nat.le_refl _, rfl, HA.out, HST.out⟩
    · obtain rfl : i = l.length := by omega
      have hltz : ¬ (l.length : Int) < (l.length : Int) := by omega
      obtain ⟨h1, h2⟩ := HR.out
      rw [List.take_length] at h1
      have HT : Aside (weightR l = if l.length ≤ 320 then ((s : Int), decide (s ≤ 32768)) else (0, false)) := by
        show weightR l = _
        unfold weightR
        by_cases q : l.length ≤ 320
        · rw [if_pos ⟨q, h1⟩, if_pos q, ← h2]
        · rw [if_neg (fun h => q h.1), if_neg q]
      clear h1 h2
      by_cases h320 : l.length ≤ 320
      · have h3z : (l.length : Int) ≤ 320 := by omega
        by_cases hf : s ≤ 32768
        · have hfz : (s : Int) ≤ 32768 := by omega
          go_wp2_with fail
          go_ret2
          have := HT.out
          rw [if_pos h320, decide_eq_true hf] at this
          exact ⟨s, by rw [this]; rfl, fun _ => by rw [this], rfl⟩
        · have hfz : ¬ (s : Int) ≤ 32768 := by omega
          go_wp2_with fail
          go_ret2
          have := HT.out
          rw [if_pos h320, decide_eq_false hf] at this
          exact ⟨s, by rw [this]; rfl, fun _ => by rw [this], rfl⟩
      · have h3z : ¬ (l.length : Int) ≤ 320 := by omega
        go_wp2_with fail
        go_ret2
        have := HT.out
        rw [if_neg h320] at this
        exact ⟨s, by rw [this]; rfl, fun h => (by rw [this] at h; cases h), rfl⟩

end Go.Proofs.YtmmbadkkkjkgnaaDoor.Huf
