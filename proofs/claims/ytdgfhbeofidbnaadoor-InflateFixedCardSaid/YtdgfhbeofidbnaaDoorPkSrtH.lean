/- The library's stable sort, at elements of one cell: the row is sorted by an order in which none are alike, where those that compare alike came in that order. -/
import Derived.Test.YtdgfhbeofidbnaaDoorPkSrtG
import Derived.Test.YtdgfhbeofidbnaaDoorPkShelf
namespace Go.Proofs.YtdgfhbeofidbnaaDoor.Srt
open Go.Shelf Go.RowKit Go.Lib Go.Sort
variable {α : Type} [Inhabited α]

section
variable (enc : α → Value) (cf : α → α → Int) (lt : α → α → Bool) (hS : SWO lt) (g : Nat) (cb : Array Value) (blk off cap sz : Nat) (d0 : Array α) (w0 : World)
    (eg : ∀ args w, (callFunc g args).run Tryd.prog w = .ok (.enter g args) w) (hcmp : CmpLays1 Tryd.prog g cb enc cf blk off sz w0) (R : Row1 enc w0 blk off d0) (h0 : d0.size = sz) (hsz : sz < 1099511627776)
include eg hcmp R h0 hsz

include hS in
theorem merges_all : ∀ (N a m b : Nat), b - a ≤ N → a < m → m < b → b ≤ sz → Merges enc cf lt g cb blk off cap sz w0 a m b
  | 0, a, m, b, h1, h2, h3, _ => by omega
  | N + 1, a, m, b, h1, h2, h3, h4 => by
    by_cases q1 : m = a + 1
    · exact merges_left enc cf lt hS g cb blk off cap sz d0 w0 eg hcmp R h0 (by omega) a m b q1 h3 h4
    · by_cases q2 : b = m + 1
      · exact merges_right enc cf lt hS g cb blk off cap sz d0 w0 eg hcmp R h0 (by omega) a m b (by omega) q2 h4
      · exact merges_wide enc cf lt hS g cb blk off cap sz d0 w0 eg hcmp R h0 (by omega) a m b (by omega) (by omega) h4 (fun a' m' b' r1 r2 r3 r4 => merges_all N a' m' b' (by omega) r2 r3 r4)

theorem insertion_any (d : Array α) (w : World) (a b : Nat) (hd : d.size = sz) (S : SW enc w0 blk off d w) (hab : a ≤ b) (hb : b ≤ sz) :
    Calls Tryd.prog 115 #[.slice (some ⟨blk, off, none⟩) sz cap, .int .i64 a, .int .i64 b, .func (.func g) #[] cb] w fun e w' => e = .returned (.tuple #[]) ∧ SW enc w0 blk off (Sort.insertionSort (ltOf cf) d a b) w' := by
  have h := Any.insertionSortCmpFunc_s Tryd.laysIns enc cf g cb blk off cap a b d0 d w0 w eg (by rw [h0]; exact hcmp) R (by omega) S hab (by omega) (by omega)
  rw [hd] at h
  exact h

include hS in
set_option maxHeartbeats 4000000 in
set_option maxRecDepth 1000000 in
theorem stable_any (Pre : α → α → Prop) (hpre : ∀ x y, Pre x y → ltOf cf y x = lt y x) (d : Array α) (w : World) (hd : d.size = sz) (S : SW enc w0 blk off d w) (hraw : ∀ i j, i < j → j < d.size → Pre d[i]! d[j]!) :
    Calls Tryd.prog 91 #[.slice (some ⟨blk, off, none⟩) sz cap, .int .i64 sz, .func (.func g) #[] cb] w fun e w' => e = .returned (.tuple #[]) ∧ ∃ d', PermIn 0 sz d d' ∧ SortedIn lt 0 sz d' ∧ SW enc w0 blk off d' w' := by
  have S0 : Aside (SW enc w0 blk off d w) := S
  have HI0 : Aside (Ins1 lt Pre d 20 0) := Ins1.start hraw
  have INS : Aside _ := insertion_any enc cf g cb blk off cap sz d0 w0 eg hcmp R h0 hsz
  have MRG : Aside _ := fun a m b => merges_all enc cf lt hS g cb blk off cap sz d0 w0 eg hcmp R h0 hsz (b - a) a m b (Nat.le_refl _)
  have HSW : Aside (SWO lt ∧ ∀ x y, Pre x y → ltOf cf y x = lt y x) := ⟨hS, hpre⟩
  clear S hraw hcmp hS hpre
  go_enter Tryd.func91, Tryd.ntmps91
  go_wp2_with fail
  go_loopg [7, 8] sz (fun kx s7 s8 wr => ∃ (a : Nat) (dk : Array α), s7 = .int .i64 a ∧ s8 = .int .i64 ((a : Int) + 20) ∧ a ≤ sz ∧ sz - a ≤ kx ∧ dk.size = sz ∧ Aside (SW enc w0 blk off dk wr) ∧ Aside (Ins1 lt Pre dk 20 a ∧ PermIn 0 sz d dk))
  case atStart => exact ⟨0, d, rfl, rfl, Nat.zero_le _, Nat.le_refl _, hd, S0, HI0, permIn_refl d 0 sz⟩
  case round =>
    clear S0 HI0
    obtain ⟨a, dk, rfl, rfl, ha, hkx, hds, S1, HE⟩ := hrel
    by_cases hlt : a + 20 ≤ sz
    · have hltz : (a : Int) + 20 ≤ (sz : Int) := by omega
      have hcon := INS.out dk wr a (a + 20) hds S1.out (by omega) hlt
      rw [show ((a + 20 : Nat) : Int) = (a : Int) + 20 by omega] at hcon
      have HC := Lib.hid hcon
      clear hcon
      go_wp2_with (first | (go_at_call 115; refine HC.out.mono ?_; rintro e w2 ⟨rfl, S2⟩))
      have p := insertion_lt HSW.out.1 HSW.out.2 dk a (a + 20) (by omega) (by omega) (fun k j q1 q2 q3 => HE.out.1.raw k j q2 (by omega) (by omega))
      go_roundg (sz - (a + 20))
      case measure => omega
      case rel => exact ⟨a + 20, _, by go_num, by go_num, hlt, Nat.le_refl _, by rw [p.1.1]; exact hds, S2, HE.out.1.step (by omega) p.1 p.2, permIn_trans _ _ _ _ _ HE.out.2 (permIn_mono _ _ _ _ _ _ (Nat.zero_le _) hlt (by omega) p.1)⟩
    · have hltz : ¬ (a : Int) + 20 ≤ (sz : Int) := by omega
      have HC := Lib.hid (INS.out dk wr a sz hds S1.out ha (Nat.le_refl _))
      go_wp2_with (first | (go_at_call 115; refine HC.out.mono ?_; rintro e w2 ⟨rfl, S2⟩))
      have p := insertion_lt HSW.out.1 HSW.out.2 dk a sz ha (by omega) (fun k j q1 q2 q3 => HE.out.1.raw k j q2 (by omega) (by omega))
      have hp : Aside (∃ d2 : Array α, d2.size = sz ∧ SW enc w0 blk off d2 w2 ∧ Lev lt Pre d2 20 0 ∧ PermIn 0 sz d d2) := by
        refine ⟨_, p.1.1.trans hds, S2, HE.out.1.last (by omega) (by omega) (by rw [hds]; exact p.1) (by rw [hds]; exact p.2), permIn_trans _ _ _ _ _ HE.out.2 (permIn_mono _ _ _ _ _ _ (Nat.zero_le _) (Nat.le_refl _) (by omega) p.1)⟩
      clear p S2 HC S1 HE hds INS
      obtain ⟨d2, hd2, S2, L2, P2⟩ := hp.out
      have SS2 : Aside (SW enc w0 blk off d2 w2) := S2
      have LL2 : Aside (Lev lt Pre d2 20 0 ∧ PermIn 0 sz d d2) := ⟨L2, P2⟩
      clear hp S2 L2 P2
      go_loopg [6] sz (fun kx s6 wr => ∃ (k : Nat) (dk : Array α), s6 = .int .i64 k ∧ 0 < k ∧ sz - k ≤ kx ∧ k < 2199023255552 ∧ dk.size = sz ∧ Aside (SW enc w0 blk off dk wr) ∧ Aside (Lev lt Pre dk k 0 ∧ PermIn 0 sz d dk))
      case atStart => exact ⟨20, d2, rfl, by omega, by omega, by omega, hd2, SS2, LL2⟩
      case round =>
        clear SS2 LL2 hd2
        obtain ⟨k, dk, rfl, hk0, hkx2, hkm, hds, S1, HE⟩ := hrel
        by_cases hlt : k < sz
        · have hltk : (k : Int) < (sz : Int) := by omega
          obtain ⟨k2, hk2⟩ : ∃ q, q = 2 * k := ⟨_, rfl⟩
          have zk2 : 2 * (k : Int) = (k2 : Int) := by omega
          have zk3 : (k : Int) * 2 = (k2 : Int) := by omega
          have wk2 : IntKind.i64.wrap (2 * (k : Int)) = (k2 : Int) := by rw [IntKind.wrap_i64]; omega
          have wk3 : IntKind.i64.wrap ((k : Int) * 2) = (k2 : Int) := by rw [IntKind.wrap_i64]; omega
          have hk2m : k2 < 2199023255552 := by omega
          have HK : Aside (k2 = 2 * k) := hk2
          clear hk2
          go_wp2_with fail
          go_loopg [7, 8] sz (fun kx s7 s8 wr => ∃ (a : Nat) (dk : Array α), s7 = .int .i64 a ∧ s8 = .int .i64 ((a : Int) + (k2 : Int)) ∧ a ≤ sz ∧ sz - a ≤ kx ∧ dk.size = sz ∧ Aside (SW enc w0 blk off dk wr) ∧ Aside (Lev lt Pre dk k a ∧ PermIn 0 sz d dk))
          case atStart => exact ⟨0, dk, rfl, by go_num, Nat.zero_le _, Nat.le_refl _, hds, S1, HE⟩
          case round =>
            clear S1 HE hds
            obtain ⟨a, dk, rfl, rfl, ha, hkx3, hds, S1, HE⟩ := hrel
            have wak : IntKind.i64.wrap ((a : Int) + (k : Int)) = (a : Int) + (k : Int) := by rw [IntKind.wrap_i64]; omega
            by_cases hltb : a + k2 ≤ sz
            · have hltz2 : (a : Int) + (k2 : Int) ≤ (sz : Int) := by omega
              have hm := HK.out
              have hcon := MRG.out a (a + k) (a + k2) (by omega) (by omega) hltb dk wr hds S1.out (HE.out.1.mrg HSW.out.2 (by omega) (by rw [hds]; omega))
              clear hm
              rw [show ((a + k : Nat) : Int) = (a : Int) + (k : Int) by omega, show ((a + k2 : Nat) : Int) = (a : Int) + (k2 : Int) by omega] at hcon
              have HC := Lib.hid hcon
              have wb : IntKind.i64.wrap ((a : Int) + (k2 : Int) + (k2 : Int)) = (a : Int) + (k2 : Int) + (k2 : Int) := by rw [IntKind.wrap_i64]; omega
              clear hcon S1
              go_wp2_with (first | (go_at_call 116; refine HC.out.mono ?_; rintro e w3 ⟨rfl, d3, q1, q2, S3⟩))
              go_roundg (sz - (a + k2))
              case measure => have := HK.out; omega
              case rel =>
                have hm := HK.out
                subst hm
                exact ⟨a + 2 * k, d3, by go_num, by go_num, hltb, Nat.le_refl _, q1.1.trans hds, S3, HE.out.1.step hk0 (by omega) q1 q2, permIn_trans _ _ _ _ _ HE.out.2 (permIn_mono _ _ _ _ _ _ (Nat.zero_le _) hltb (by omega) q1)⟩
            · have hltz2 : ¬ (a : Int) + (k2 : Int) ≤ (sz : Int) := by omega
              by_cases hmn : a + k < sz
              · have hmz : (a : Int) + (k : Int) < (sz : Int) := by omega
                have hm := HK.out
                have hcon := MRG.out a (a + k) sz (by omega) (by omega) (Nat.le_refl _) dk wr hds S1.out (HE.out.1.mrg HSW.out.2 (by omega) (by rw [hds]; omega))
                clear hm
                rw [show ((a + k : Nat) : Int) = (a : Int) + (k : Int) by omega] at hcon
                have HC := Lib.hid hcon
                clear hcon S1
                go_wp2_with (first | (go_at_call 116; refine HC.out.mono ?_; rintro e w3 ⟨rfl, d3, q1, q2, S3⟩))
                go_roundg (sz - k2)
                case measure => have := HK.out; omega
                case rel =>
                  have hm := HK.out
                  subst hm
                  exact ⟨2 * k, d3, by go_num, by omega, Nat.le_refl _, hk2m, q1.1.trans hds, S3, HE.out.1.last (by omega) (by omega) (by rw [hds]; exact q1) (by rw [hds]; exact q2), permIn_trans _ _ _ _ _ HE.out.2 (permIn_mono _ _ _ _ _ _ (Nat.zero_le _) (Nat.le_refl _) (by omega) q1)⟩
              · have hmz : ¬ (a : Int) + (k : Int) < (sz : Int) := by omega
                go_wp2_with fail
                go_roundg (sz - k2)
                case measure => have := HK.out; omega
                case rel =>
                  have hm := HK.out
                  subst hm
                  exact ⟨2 * k, dk, by go_num, by omega, Nat.le_refl _, hk2m, hds, S1, HE.out.1.last (by omega) (by omega) (permIn_refl _ _ _) (HE.out.1.tail (by omega)), HE.out.2⟩
        · have hltk : ¬ (k : Int) < (sz : Int) := by omega
          go_wp2_with fail
          go_end0
          have := HE.out.1.whole (by omega)
          rw [hds] at this
          exact ⟨rfl, dk, HE.out.2, this, S1.out⟩

include hS in
set_option maxHeartbeats 1000000 in
theorem sortStable_any (Pre : α → α → Prop) (hpre : ∀ x y, Pre x y → ltOf cf y x = lt y x) (d : Array α) (w : World) (hd : d.size = sz) (S : SW enc w0 blk off d w) (hraw : ∀ i j, i < j → j < d.size → Pre d[i]! d[j]!) :
    Calls Tryd.prog 61 #[.slice (some ⟨blk, off, none⟩) sz cap, .func (.func g) #[] cb] w fun e w' => e = .returned (.tuple #[]) ∧ ∃ d', PermIn 0 sz d d' ∧ SortedIn lt 0 sz d' ∧ SW enc w0 blk off d' w' := by
  have HC := Lib.hid (stable_any enc cf lt hS g cb blk off cap sz d0 w0 eg hcmp R h0 hsz Pre hpre d w hd S hraw)
  clear hcmp S hraw hpre hS
  go_enter Tryd.func61, Tryd.ntmps61
  go_wp2_with (first | (go_at_call 91; refine HC.out.mono ?_; rintro e w2 ⟨rfl, d', q1, q2, q3⟩))
  go_end0
  exact ⟨rfl, d', q1, q2, q3⟩
end

set_option maxHeartbeats 1000000 in
/-- Of no elements. -/
theorem insertion_none (fv : Value) (w : World) : Calls Tryd.prog 115 #[.slice none 0 0, .int .i64 0, .int .i64 0, fv] w fun e w' => e = .returned (.tuple #[]) ∧ w' = w := by
  go_enter Tryd.func115, Tryd.ntmps115
  go_wp2_with fail
  go_loopg [8] 1 (fun kx s8 wr => s8 = .int .i64 1 ∧ wr = w)
  case atStart => exact ⟨rfl, rfl⟩
  case round =>
    obtain ⟨rfl, rfl⟩ := hrel
    go_wp2_with fail
    go_end0
    exact ⟨rfl, rfl⟩
set_option maxHeartbeats 1000000 in
theorem sortStable_none (fv : Value) (w : World) : Calls Tryd.prog 61 #[.slice none 0 0, fv] w fun e w' => e = .returned (.tuple #[]) ∧ w' = w := by
  have HI := Lib.hid (insertion_none fv w)
  have hst : Calls Tryd.prog 91 #[.slice none 0 0, .int .i64 0, fv] w fun e w' => e = .returned (.tuple #[]) ∧ w' = w := by
    go_enter Tryd.func91, Tryd.ntmps91
    go_wp2_with fail
    go_loopg [7, 8] 1 (fun kx s7 s8 wr => s7 = .int .i64 0 ∧ s8 = .int .i64 20 ∧ wr = w)
    case atStart => exact ⟨rfl, rfl, rfl⟩
    case round =>
      obtain ⟨rfl, rfl, rfl⟩ := hrel
      go_wp2_with (first | (go_at_call 115; refine HI.out.mono ?_; rintro e w2 ⟨rfl, rfl⟩))
      go_loopg [6] 1 (fun kx s6 wr => s6 = .int .i64 20 ∧ wr = w2)
      case atStart => exact ⟨rfl, rfl⟩
      case round =>
        obtain ⟨rfl, rfl⟩ := hrel
        go_wp2_with fail
        go_end0
        exact ⟨rfl, rfl⟩
  have HS := Lib.hid hst
  clear hst HI
  go_enter Tryd.func61, Tryd.ntmps61
  go_wp2_with (first | (go_at_call 91; refine HS.out.mono ?_; rintro e w2 ⟨rfl, rfl⟩))
  go_end0
  exact ⟨rfl, rfl⟩
end Go.Proofs.YtdgfhbeofidbnaaDoor.Srt
