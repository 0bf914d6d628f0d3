/- The statement BitsBack: what was put is taken as it was, number by number, bytes between. -/
import Derived.Test.YtaibehfpbcgijabDoorBitY
import Derived.Deep.RegionWith
import Derived.Deep.RegionHeld3
import Derived.RegionTactic
namespace Go.Proofs.YtaibehfpbcgijabDoor.Bit
open Go.RowKit Go.Shelf Go.Lib Go.Proofs.YtaibehfpbcgijabDoor.Mem

theorem num_same (n : Int) (w : World) : Calls Tryd.prog 19 #[.int .i64 n] w fun e w' => e = .returned (.int .i64 n) ∧ w' = w := (num_any n w).mono fun _ _ ⟨h1, h2⟩ => ⟨h1, h2.symm⟩

set_option maxRecDepth 100000 in
set_option maxHeartbeats 16000000 in
theorem lawBitsBack (W : World) (B co : Nat) (ao : Option Addr) (os : List OpV) (hB : W.heap.size = B) (hm : Masks W B) (ho : ∀ r o, os[r]? = some o → OpAt W ao r o) (hol : os.length * 48 ≤ 140737488351232) :
    Calls Tryd.prog 7 #[.slice ao os.length co] W fun e w' => e = .returned (.bool true) ∧ Below B W w' := by
  have HBW := Lib.hid hB
  have HK := Lib.hid hm
  have HO := Lib.hid ho
  have HN1 := Lib.hid (newWriter_any W B (by omega))
  rw [hB] at HN1
  have HN := fun n w => Lib.hid (num_any n w)
  have hnb : ∀ (b : Nat) w, (binOp .eql 23 (.pointer (some ⟨b, 0, none⟩)) (.pointer none)).run Tryd.prog w = .ok (.bool false) w := fun _ _ => by kernel_rfl
  have hnr : ∀ (b : Nat) w, (binOp .eql 36 (.pointer (some ⟨b, 0, none⟩)) (.pointer none)).run Tryd.prog w = .ok (.bool false) w := fun _ _ => by kernel_rfl
  have mixed : Tryd.prog.follows .mixedOrders = true := by kernel_rfl
  clear hB hm ho
  go_enter Tryd.func7, Tryd.ntmps7
  go_wp2_with (first
    | (go_at_call 8; refine HN1.out.mono ?_; rintro e w1 ⟨rfl, q1, q2⟩; have HQ1 := Lib.hid (And.intro q1 (And.intro q2 (Nat.le_of_lt q1.lt))); have HKn := Lib.hid (knows_at w1 B (HK.out.below HQ1.out.2.1) HQ1.out.2.2); clear q1 q2)
    | (go_at_call 9; refine HKn.out.mono ?_; rintro e w3 ⟨rfl, hb3⟩; have HB3 := Lib.hid hb3; clear hb3))
  have hs0 : Bk W w3 B B B (.slice none 0 0) [] :=
    ⟨HQ1.out.1.below HB3.out, Nat.zero_le _, World.ownsRow_nil _ _ _ _, (fun e => by cases e), (fun e => by cases e), HQ1.out.2.1.trans (HB3.out.mono HQ1.out.2.2), Nat.le_trans HQ1.out.2.2 HB3.out.size, (fun o h => by cases h), (fun o h => by cases h)⟩
  have HS0 := Lib.hid hs0
  clear hs0 HQ1 HKn HB3 HN1
  go_loopw [4, 5] (fun s4 s5 wr => ∃ (k g : Nat) (dv : Value) (ds : List OpV), k ≤ os.length ∧ dv = s4 ∧ s5 = .int .i64 k ∧ ds.length ≤ k ∧ Bk W wr B B g dv ds) (fun _ i _ => os.length - (RowKit.intOf i).toNat)
  case atStart => exact ⟨0, B, _, [], Nat.zero_le _, rfl, rfl, Nat.le_refl _, HS0.out⟩
  case round =>
    obtain ⟨k, g, dv, ds, hk, rfl, rfl, hdk, hS⟩ := hrel
    have HS := Lib.hid hS
    clear hS HS0
    by_cases h1 : k < os.length
    · have p1 := HO.out k _ (List.getElem?_eq_getElem h1)
      generalize os[k] = o at p1
      obtain ⟨a, rfl, hob, hat⟩ := op_later HBW.out p1
      have HAt := Lib.hid hat
      have HSrc : Hid ((∀ w', Below B W w' → Src w' (.slice o.ba o.b.length o.bc) o.b) ∧ o.b.length ≤ 140737488351232) := Lib.hid ⟨fun w' hb => (hat w' hb).2.2.2.2, hob⟩
      obtain ⟨x0, x1, x2, x3, -⟩ := hat wr HS.out.bel
      clear hat p1
      have hlim : (ds.length + 1) * 48 ≤ 140737488355328 := by omega
      by_cases hk0 : o.kind = 0
      · have HP : ∀ w, WB w B B g (playB ds) → Masks w B → Hid (Calls Tryd.prog 29 #[.pointer (some ⟨B, 0, none⟩), .int .i64 o.v, .int .i64 o.n] w fun e w' => e = .returned (.int .i64 (putL (playB ds) o.v o.n).1) ∧ WStep w w' B B g (putL (playB ds) o.v o.n).2) := fun w q1 q2 => Lib.hid (wput_any w B B g o.v o.n (playB ds) q1 q2 HS.out.hl)
        have hle := putL_le (playB ds) o.v o.n HS.out.hl
        have hyes := putL_ok (playB ds) o.v o.n
        have hno := putL_no (playB ds) o.v o.n
        have heff : ∀ l, l = playB ds ++ bitsOf o.v o.n.toNat → l = eff (playB ds) o := fun l h => by unfold eff; rw [if_pos hk0]; exact h
        generalize putL (playB ds) o.v o.n = pl at HP hle hyes hno
        obtain ⟨pe, l2⟩ := pl
        have HPE : Hid ((pe = 0 → okPut o.v o.n ∧ l2 = playB ds ++ bitsOf o.v o.n.toNat) ∧ (¬ pe = 0 → l2 = playB ds) ∧ l2.length ≤ 8388608 ∧ ∀ l, l = playB ds ++ bitsOf o.v o.n.toNat → l = eff (playB ds) o) := Lib.hid ⟨hyes, hno, hle, heff⟩
        have HKd := Lib.hid hk0
        rw [hk0] at x0
        clear hyes hno hle heff hk0
        go_wp2
        go_region_held3 (fun w' => w'.cell? ⟨(a.add (k * 4)).block, (a.add (k * 4)).off + 1, none⟩ = some (.int .i64 o.n) ∧ w'.cell? ⟨(a.add (k * 4)).block, (a.add (k * 4)).off + 2, none⟩ = some (.int .i64 o.v)) (first | go_keep | exact ⟨y1, y2⟩)
         (first
          | (go_at_call 29
             refine (HP wr.drew (HS.out.q.drew ⟨rfl, rfl, rfl, rfl⟩) ((HK.out.below HS.out.bel).drew ⟨rfl, rfl, rfl, rfl⟩)).out.mono ?_
             rintro e w4 ⟨rfl, s0⟩
             have s1 : WStep wr w4 B B g l2 := WStep.of_drew (V := wr.drew) ⟨rfl, rfl, rfl, rfl⟩ s0
             have hb4 : Below B W w4 := HS.out.bel.trans (s1.choose_spec.2.2.below HS.out.hB (by rintro i (rfl | rfl); exact HS.out.q.leb; exact HS.out.q.leg))
             obtain ⟨y0, y1, y2, y3, -⟩ := HAt.out w4 hb4
             have HS1 := Lib.hid s1
             clear s0 s1 hb4)
          | (go_at_call 19; refine (HN _ _).out.mono ?_; rintro e w ⟨rfl, rfl⟩))
        by_cases hpe : pe = 0
        · obtain ⟨v1, W1, g1, hr1, hbk⟩ := HS.out.push o (w' := w4) (by rw [← HPE.out.2.2.2 _ (HPE.out.1 hpe).2]; exact HS1.out) (by rw [← HPE.out.2.2.2 _ (HPE.out.1 hpe).2]; exact HPE.out.2.2.1) (fun _ => (HPE.out.1 hpe).1) HSrc.out hlim
          have HBk := Lib.hid hbk
          subst hpe
          clear hbk HS1 HP HPE
          go_wp2_with (at_builtin; refine wpList_append_at _ rfl _ _ _ _ rfl _ _ rfl rfl _ _ hr1 ?_)
          go_roundw
          case rel => exact ⟨k + 1, g1, _, _, by omega, rfl, by go_num, by simp; omega, HBk.out⟩
          case measure => simp [RowKit.intOf]; omega
        · obtain ⟨g1, hbk⟩ := HS.out.skip (w' := w4) (by rw [← HPE.out.2.1 hpe]; exact HS1.out)
          have HBk := Lib.hid hbk
          clear hbk HS1 HP HPE
          go_wp2
          go_roundw
          case rel => exact ⟨k + 1, g1, _, _, by omega, rfl, by go_num, by omega, HBk.out⟩
          case measure => simp [RowKit.intOf]; omega
      · by_cases hk1 : o.kind = 1
        · have HA := Lib.hid (align_any wr B B g (playB ds) HS.out.q HS.out.hl)
          have heff : alignL (playB ds) = eff (playB ds) o := by unfold eff; rw [if_neg hk0, if_pos hk1]
          have hall := alignL_len (playB ds)
          have hl := HS.out.hl
          rw [heff] at HA hall
          have hle : (eff (playB ds) o).length ≤ 8388608 := by omega
          have HKd := Lib.hid hk0
          rw [hk1] at x0
          clear heff hall hl hk0 hk1
          go_wp2_with (first
            | (go_at_call 28
               refine HA.out.mono ?_
               rintro e w4 ⟨rfl, s1⟩
               have hb4 : Below B W w4 := HS.out.bel.trans (s1.choose_spec.2.2.below HS.out.hB (by rintro i (rfl | rfl); exact HS.out.q.leb; exact HS.out.q.leg))
               obtain ⟨y0, y1, y2, y3, -⟩ := HAt.out w4 hb4
               obtain ⟨v1, W1, g1, hr1, hbk⟩ := HS.out.push o s1 hle (fun e => absurd e HKd.out) HSrc.out hlim
               have HBk := Lib.hid hbk
               clear hbk s1 hb4)
            | (at_builtin; refine wpList_append_at _ rfl _ _ _ _ rfl _ _ rfl rfl _ _ hr1 ?_))
          go_roundw
          case rel => exact ⟨k + 1, g1, _, _, by omega, rfl, by go_num, by simp; omega, HBk.out⟩
          case measure => simp [RowKit.intOf]; omega
        · have heff : alignL (playB ds) ++ rawL o.b = eff (playB ds) o := by unfold eff; rw [if_neg hk0, if_neg hk1]
          obtain ⟨v1, W1, hr1, ho1, hb1⟩ := fresh_any wr (.slice o.ba o.b.length o.bc) 27 o.b (HSrc.out.1 wr HS.out.bel) (by omega)
          have hbe : Below B W (wr.alloc (.cells #[] 5)) := HS.out.bel.trans (((Below.refl wr.heap.size wr).alloc (Nat.le_refl _) _).mono HS.out.hB)
          obtain ⟨-, -, -, z3, -⟩ := HAt.out _ hbe
          obtain ⟨ao1, c1, rfl, -, -, -⟩ := own_shape ho1
          have HW := Lib.hid (wraw_any W1 B B g _ c1 ao1 (playB ds) o.b (HS.out.q.below hb1) (Src.of_own ho1 rfl) rfl HS.out.hl)
          have hle := rawW_le (playB ds) o.b HS.out.hl
          have hyes := rawW_ok (playB ds) o.b
          have hno := rawW_no (playB ds) o.b
          rw [heff] at hyes
          generalize rawW (playB ds) o.b = pl at HW hle hyes hno
          obtain ⟨pe, l2⟩ := pl
          have HPE : Hid ((pe = 0 → l2 = eff (playB ds) o) ∧ (¬ pe = 0 → l2 = playB ds) ∧ l2.length ≤ 8388608) := Lib.hid ⟨hyes, hno, hle⟩
          have HB1 := Lib.hid hb1
          have HKd := Lib.hid hk0
          clear heff hbe hyes hno hle hb1 ho1
          by_cases hpe : pe = 0
          · subst hpe
            have hl2 := HPE.out.1 rfl
            subst hl2
            go_wp2_with (first
              | (at_builtin; refine wpList_append_at _ rfl _ _ _ _ rfl _ _ rfl rfl _ _ hr1 ?_)
              | (go_at_call 30
                 refine HW.out.mono ?_
                 rintro e w4 ⟨rfl, s0⟩
                 have s1 : WStep wr w4 B B g (eff (playB ds) o) := WStep.trans (HS.out.q.below HB1.out) (.inl rfl) (Only.of_below HB1.out) s0
                 have hb4 : Below B W w4 := HS.out.bel.trans (s1.choose_spec.2.2.below HS.out.hB (by rintro i (rfl | rfl); exact HS.out.q.leb; exact HS.out.q.leg))
                 obtain ⟨y0, y1, y2, y3, -⟩ := HAt.out w4 hb4
                 obtain ⟨v2, W2, g1, hr2, hbk⟩ := HS.out.push o s1 HPE.out.2.2 (fun e => absurd e HKd.out) HSrc.out hlim
                 have HBk := Lib.hid hbk
                 clear hbk s0 s1 hb4)
              | (go_at_call 19; refine (HN _ _).out.mono ?_; rintro e w ⟨rfl, rfl⟩)
              | (at_builtin; refine wpList_append_at _ rfl _ _ _ _ rfl _ _ rfl rfl _ _ hr2 ?_))
            go_roundw
            case rel => exact ⟨k + 1, g1, _, _, by omega, rfl, by go_num, by simp; omega, HBk.out⟩
            case measure => simp [RowKit.intOf]; omega
          · have hl2 := HPE.out.2.1 hpe
            subst hl2
            go_wp2_with (first
              | (at_builtin; refine wpList_append_at _ rfl _ _ _ _ rfl _ _ rfl rfl _ _ hr1 ?_)
              | (go_at_call 30
                 refine HW.out.mono ?_
                 rintro e w4 ⟨rfl, s0⟩
                 have s1 : WStep wr w4 B B g (playB ds) := WStep.trans (HS.out.q.below HB1.out) (.inl rfl) (Only.of_below HB1.out) s0
                 have hb4 : Below B W w4 := HS.out.bel.trans (s1.choose_spec.2.2.below HS.out.hB (by rintro i (rfl | rfl); exact HS.out.q.leb; exact HS.out.q.leg))
                 obtain ⟨y0, y1, y2, y3, -⟩ := HAt.out w4 hb4
                 obtain ⟨g1, hbk⟩ := HS.out.skip s1
                 have HBk := Lib.hid hbk
                 clear hbk s0 s1 hb4)
              | (go_at_call 19; refine (HN _ _).out.mono ?_; rintro e w ⟨rfl, rfl⟩))
            go_roundw
            case rel => exact ⟨k + 1, g1, _, _, by omega, rfl, by go_num, by omega, HBk.out⟩
            case measure => simp [RowKit.intOf]; omega
    · obtain ⟨ad, cd, rfl, hcd, hcm, -⟩ := own_shape HS.out.d
      have hpl := pk_len (playB ds)
      have hll := HS.out.hl
      have HB1 := Lib.hid (bytes_any wr B B g (playB ds) HS.out.q HS.out.hl)
      obtain ⟨bs, hbs⟩ : ∃ bs, pk (playB ds) = bs := ⟨_, rfl⟩
      rw [hbs] at HB1 hpl
      have HBs := Lib.hid hbs
      have hp1 : (playB ds).length ≤ 8 * bs.length := by omega
      have hp2 : 8 * bs.length ≤ (playB ds).length + 7 := by omega
      clear hbs hpl
      clear HN
      have HN := fun n w => Lib.hid (num_any n w)
      go_wp2_with (first
        | (go_at_call 11
           refine HB1.out.mono ?_
           rintro e w4 ⟨v4, rfl, t1, t2⟩
           obtain ⟨a4, c4, rfl, -, -, -⟩ := own_shape t1
           have HT4 := Lib.hid t2
           have HNR := Lib.hid (newReader_any w4 B _ c4 a4 bs (Src.of_own t1 rfl) rfl (by omega) (Nat.le_trans HS.out.hB t2.size))
           clear t1 t2)
        | (go_at_call 14
           with_reducible refine HNR.out.mono ?_
           rintro e w5 ⟨r, u, rfl, q1, q2, q3, q4⟩
           have h5 : Below wr.heap.size wr w5 := HT4.out.trans (q4.mono HT4.out.size)
           have hr : Rk W w5 B r u (.slice ad ds.length cd) ds 0 := ⟨by rw [HBs.out]; exact q1, own_below HS.out.d h5, fun e => by have h1 := (HS.out.d.lt r e).2; have h2 := HT4.out.size; omega, HS.out.bel.trans (h5.mono HS.out.hB), Nat.le_trans HS.out.hB h5.size⟩
           have hw : WB w5 B B g (playB ds) := HS.out.q.below h5
           have hnn := hnr r
           have HR5 := Lib.hid (And.intro hr hw)
           have HL5 := Lib.hid (left_any w5 B r u bs 0 q1)
           clear q1 q2 q3 q4 h5 hr hw)
        | (go_at_call 24
           with_reducible refine HL5.out.mono ?_
           rintro e w6 ⟨rfl, n6, h6⟩
           have hr : Rk W w6 B r u (.slice ad ds.length cd) ds 0 := HR5.out.1.drew (by rw [h6]; exact Drew.drewN _ _)
           have hw : WB w6 B B g (playB ds) := HR5.out.2.drew (by rw [h6]; exact Drew.drewN _ _)
           have HR6 := Lib.hid (And.intro hr hw)
           have HB6 := Lib.hid (bits_any w6 B B g _ hw)
           have HL6 := Lib.hid (left_any w6 B r u bs 0 (by have := hr.q; rw [HBs.out] at this; exact this))
           clear h6 hr hw)
        | (go_at_call 31
           with_reducible refine HB6.out.mono ?_
           rintro e w7 ⟨rfl, rfl⟩)
        | (go_at_call 24
           with_reducible refine HL6.out.mono ?_
           rintro e w8 ⟨rfl, n8, h8⟩
           have hr : Rk W w8 B r u (.slice ad ds.length cd) ds 0 := HR6.out.1.drew (by rw [h8]; exact Drew.drewN _ _)
           have hw : WB w8 B B g (playB ds) := HR6.out.2.drew (by rw [h8]; exact Drew.drewN _ _)
           have HR8 := Lib.hid hr
           have HB8 := Lib.hid (bits_any w8 B B g _ hw)
           clear h8 hr hw)
        | (go_at_call 31
           refine HB8.out.mono ?_
           rintro e w9 ⟨rfl, rfl⟩))
      have HKm := HK
      have HF := HS.out.fine
      have HFi := Lib.hid HF
      have HSr := Lib.hid HS.out.src
      clear HF HS HR5 HR6 HL5 HL6 HB6 HB8 HNR HT4 HB1 hnr hnn hnb HO
      go_loopw [8] (fun s8 wr => ∃ j : Nat, j ≤ ds.length ∧ s8 = .int .i64 j ∧ Rk W wr B r u (.slice ad ds.length cd) ds j) (fun i _ => ds.length - (RowKit.intOf i).toNat)
      case atStart => exact ⟨0, Nat.zero_le _, rfl, HR8.out⟩
      case round =>
        obtain ⟨j, hj, rfl, hR⟩ := hrel
        clear HR8
        by_cases hlt : j < ds.length
        · obtain ⟨gd, cap, hdv, hgd, -, -, c0, c1, c2, c3⟩ := hR.cells hlt
          obtain ⟨rfl, -, rfl⟩ : ad = some ⟨gd, 0, none⟩ ∧ ds.length = ds.length ∧ cd = cap := by simpa using hdv
          clear hdv
          have hgr : ¬ gd = r := fun e => hR.dr (by rw [← e]; rfl)
          have hgo := List.getElem?_eq_getElem hlt
          have hfo := HFi.out _ (List.getElem_mem hlt)
          have hso := HSr.out _ (List.getElem_mem hlt)
          have HR := Lib.hid hR
          generalize ds[j] = o at hgo hfo hso c0 c1 c2 c3
          by_cases hk0 : o.kind = 0
          · have HT := Lib.hid (take_any wr B r u _ _ o.n hR.q (HK.out.below hR.bel))
            rw [read_put ds j o hgo hfo hk0] at HT
            rw [hk0] at c0
            clear hR hgo hfo hso hk0
            go_wp2_with (first
              | (go_at_call 17
                 refine HT.out.mono ?_
                 rintro e w6 ⟨rfl, q1, q2⟩
                 have c26 := q2.cell c2 hgr
                 have HR6 := Lib.hid (HR.out.next q1 q2 rfl)
                 clear q1 q2)
              | (go_at_call 19; refine (HN _ _).out.mono ?_; rintro e w ⟨rfl, rfl⟩))
            go_roundw
            case rel => exact ⟨j + 1, by omega, by go_num, HR6.out⟩
            case measure => simp [RowKit.intOf]; omega
          · by_cases hk1 : o.kind = 1
            · have HT := Lib.hid (ralign_any wr B r u _ _ hR.q)
              have HNx := Lib.hid (read_align ds j o hgo hk1)
              rw [hk1] at c0
              clear hR hgo hfo hso hk0 hk1
              go_wp2_with (go_at_call 20
                           refine HT.out.mono ?_
                           rintro e w6 ⟨rfl, q1, q2⟩
                           have HR6 := Lib.hid (HR.out.next q1 q2 HNx.out)
                           clear q1 q2)
              go_roundw
              case rel => exact ⟨j + 1, by omega, by go_num, HR6.out⟩
              case measure => simp [RowKit.intOf]; omega
            · have HT := Lib.hid (raw_any wr B r u _ _ (o.b.length : Int) hR.q)
              rw [read_raw ds j o hgo hk0 hk1] at HT
              dsimp only at HT
              have HSo := Lib.hid hso.1
              have hob := hso.2
              clear hR hgo hfo hso
              go_wp2_with (go_at_call 22
                           refine HT.out.mono ?_
                           rintro e w6 ⟨v6, rfl, q0, q1, q2⟩
                           have c36 := q2.cell c3 hgr
                           have HR6 := Lib.hid (HR.out.next q1 q2 rfl)
                           have s1 : ∀ m, (convert 27 9 v6).run Tryd.prog (w6.drewN m) = .ok (.string ⟨o.b.toArray⟩) (w6.drewN m) := fun m => conv_src _ v6 o.b ((Src.of_own q0 rfl).drew (Drew.drewN _ _))
                           have s2 : ∀ m, (convert 27 9 (.slice o.ba o.b.length o.bc)).run Tryd.prog (w6.drewN m) = .ok (.string ⟨o.b.toArray⟩) (w6.drewN m) := fun m => conv_src _ _ o.b (HSo.out _ (HR6.out.bel.trans ((Drew.drewN _ _).below _)))
                           obtain ⟨a6, c6, rfl, -, -, -⟩ := own_shape q0
                           clear q0 q1 q2)
              generalize (⟨o.b.toArray⟩ : ByteArray) = str at s1 s2
              go_quiet ((go_at_call 19; exact Calls.quiet_of_same (num_same _ _)))
              go_wp2
              go_roundw
              case rel => exact ⟨j + 1, by omega, by go_num, HR6.out.drew ⟨rfl, rfl, rfl, rfl⟩⟩
              case measure => simp [RowKit.intOf]; omega
        · have ej : playB (ds.take j) = playB ds := by rw [List.take_of_length_le (by omega)]
          have hq := hR.q
          rw [ej, HBs.out] at hq
          have HL := Lib.hid (left_any wr B r u bs _ hq)
          have HBl := Lib.hid hR.bel
          clear hR hq ej
          go_wp2_with (go_at_call 24; refine HL.out.mono ?_; rintro e w6 ⟨rfl, n6, rfl⟩)
          go_ret
          refine ⟨?_, HBl.out.trans ((Drew.drewN _ _).below _)⟩
          show Ending.returned (Value.bool (decide ((8 : Int) * (bs.length : Int) - ((playB ds).length : Int) < 8))) = _
          rw [decide_eq_true (by omega)]

end Go.Proofs.YtaibehfpbcgijabDoor.Bit
