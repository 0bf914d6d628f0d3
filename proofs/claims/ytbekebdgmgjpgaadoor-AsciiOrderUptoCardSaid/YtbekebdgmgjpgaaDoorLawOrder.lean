/- The statement AsciiOrder: what comes out of a queue is what went in, in its order. -/
import Derived.Test.YtbekebdgmgjpgaaDoorAscV
import Derived.Test.YtbekebdgmgjpgaaDoorAscH
import Derived.Test.YtbekebdgmgjpgaaDoorClose
import Derived.Test.YtbekebdgmgjpgaaDoorCards
import Derived.Test.YtbekebdgmgjpgaaDoorTie
import Derived.ProofKit
import Derived.Lay
import Derived.LaidOnce
import Derived.SevenTiedAt
import Derived.Deep.DeepHandedRow
namespace Go.Proofs.YtbekebdgmgjpgaaDoor.Asc
open Go.RowKit Go.Shelf Go.Lib
open Go.ChangeShapes Go.WideShapes Go.ChangeAt

def OSt (B : Nat) (w wr : World) (b : Nat) (v7 v8 : Value) (ls : List (List UInt8)) (k : Nat) : Prop :=
  ∃ g ins outs held, Play B w wr b g v7 v8 ins outs held ∧ ins = outs ++ held ∧ ins = (ls.take k).flatten

set_option maxRecDepth 100000 in
set_option maxHeartbeats 4000000 in
theorem lawOrder (ao ai : Option Addr) (ca ci : Nat) (ls : List (List UInt8)) (xs : List Int) (w : World) (b : Nat) (hb : w.heap.size = b) (hp : Pieces w ao ls) (hx : Nums w ai xs) (hl : ls.length ≤ 1048576) (hi : xs.length ≤ 1048576) (hs : ls.flatten.length ≤ 1048576) :
    Calls Tryd.prog 8 #[.slice ao ls.length ca, .slice ai xs.length ci] w fun e w' => e = .returned (.bool true) ∧ Below b w w' := by
  have HP := Lib.hid hp
  have HX := Lib.hid hx
  have HS := Lib.hid hs
  have HN := Lib.hid (newQueue_any w 1048576 (by omega) (by omega))
  rw [hb] at HN
  have HNum := fun n w => Lib.hid (num_any n w)
  have hnn : ∀ w, (binOp .eql 39 (.pointer (some ⟨b, 0, none⟩)) (.pointer none)).run Tryd.prog w = .ok (.bool false) w := fun _ => by kernel_rfl
  have HBS := Lib.hid hb
  clear hp hx hs hb
  go_enter Tryd.func8, Tryd.ntmps8
  go_wp2_with (first
    | (go_at_call 33; refine HN.out.mono ?_; rintro e w1 ⟨rfl, hq1, hb1⟩; have HQ1 := Lib.hid hq1; have HB1 := Lib.hid hb1; clear hq1 hb1)
    | (go_at_call 28; refine (HNum _ _).out.mono ?_; rintro e w2 ⟨rfl, rfl⟩)
    | (go_at_call 14; refine (knows_any _).mono ?_; rintro e w3 ⟨rfl, hb3⟩; have HB3 := Lib.hid hb3; clear hb3))
  go_loopw [7, 8, 9] (fun s7 s8 s9 wr => ∃ (k : Nat) (v7 v8 : Value), k ≤ 1048577 ∧ v7 = s7 ∧ v8 = s8 ∧ s9 = .int .i64 k ∧ OSt b w wr b v7 v8 ls k) (fun _ _ i _ => max ls.length xs.length - (RowKit.intOf i).toNat)
  case atStart =>
    refine ⟨0, _, _, by omega, rfl, rfl, rfl, b, [], [], [], ⟨HQ1.out.below HB3.out, World.ownsRow_nil _ _ _ _, World.ownsRow_nil _ _ _ _, by simp [Value.ownBlock], by simp [Value.ownBlock], by simp [Value.ownBlock], by simp [Value.ownBlock], by simp [Value.ownBlock], Nat.le_refl _, Nat.le_refl _, ?_⟩, rfl, by simp⟩
    have h1 := HB1.out
    exact h1.trans (HB3.out.mono (by have := h1.size; rw [HBS.out] at this; exact this))
  case round =>
    obtain ⟨k, v7, v8, hk, rfl, rfl, rfl, hO⟩ := hrel
    have HO := Lib.hid hO
    clear hO
    by_cases hi1 : k < ls.length
    · by_cases hi2 : k < xs.length
      · obtain ⟨g, ins, outs, held, hpl, hio, hin⟩ := HO.out
        have hil : ins.length ≤ 1048576 := by rw [hin]; exact Nat.le_trans (take_le ls k) HS.out
        have hhl : outs.length + held.length ≤ 1048576 := by rw [← List.length_append, ← hio]; exact hil
        obtain ⟨a, x, rfl, hcx, hsx⟩ := HP.out k _ (List.getElem?_eq_getElem hi1)
        have hblk : (a.add k).block < b := by have := block_lt_of_cell hcx; rw [HBS.out] at this; exact this
        have hin2 := take_step ls k hi1
        rw [← hin] at hin2
        have hle2 := take_le ls (k + 1)
        rw [hin2] at hle2
        generalize ls[k] = l at hsx hin2 hle2
        have hfit : ins.length + l.length ≤ 1048576 := by rw [← List.length_append]; exact Nat.le_trans hle2 HS.out
        have hfit2 : outs.length + held.length + l.length ≤ 1048576 := by rw [← List.length_append, ← hio]; exact hfit
        have hcx1 := (hpl.bel.cell hblk).trans hcx
        have hsx1 : Src wr x l := Src.below hsx (by rw [HBS.out]; exact hpl.bel)
        have hbA : Below wr.heap.size wr (wr.alloc (.cells #[] 5)) := (Below.refl _ _).alloc (Nat.le_refl _) _
        have hcxA : (wr.alloc (.cells #[] 5)).cell? (a.add k) = some x := (hbA.cell (block_lt_of_cell hcx1)).trans hcx1
        have own0 : (wr.alloc (.cells #[] 5)).ownsRow wr.heap.size 5 1 (.slice (some ⟨wr.heap.size, 0, none⟩) 0 0) 0 [] := World.ownsRow_made wr #[] 0 (Nat.le_refl _) (Nat.zero_le _) rfl
        obtain ⟨v1, W1, hr1, ho1, hg1, -⟩ := app_any (wr.alloc (.cells #[] 5)) wr.heap.size (.slice (some ⟨wr.heap.size, 0, none⟩) 0 0) x 45 [] l own0 hbA.size (hsx1.below hbA) (by simp; omega)
        rw [List.nil_append] at ho1
        have hb1 : Below wr.heap.size wr W1 := hbA.trans (bel_grown own0 hg1 hbA.size)
        have HPut := Lib.hid (put_own W1 b g wr.heap.size v1 held l (hpl.q.below hb1) ho1 hpl.q.lt hpl.q.ltg (by omega))
        have HP4 := Lib.hid (hpl.below hb1)
        have HC := Lib.hid hcx
        have HSx := Lib.hid hsx
        have HI := Lib.hid hio
        clear hpl hb1 hg1 ho1 own0 hsx1 hcx hsx hle2 hin hio
        have HIn := Lib.hid hin2
        clear hin2
        obtain ⟨ay, rfl, hcy⟩ := HX.out k _ (List.getElem?_eq_getElem hi2)
        have hblky : (ay.add k).block < b := by have := block_lt_of_cell hcy; rw [HBS.out] at this; exact this
        generalize xs[k] = y at hcy
        have HCy := Lib.hid hcy
        clear hcy
        go_wp2_with (first
          | (at_builtin; refine wpList_append_at _ rfl _ _ _ _ rfl _ _ rfl rfl _ _ hr1 ?_)
          | (at_builtin; refine wpList_append_at _ rfl _ _ _ _ rfl _ _ rfl rfl _ _ hr5 ?_)
          | (go_at_call 38; refine HPut.out.mono ?_; rintro e w4 ⟨rfl, g4, q1, q2, q3⟩; have hpl4 := HP4.out.upd q3 q1 q2; have hcx4 : w4.cell? (a.add k) = some x := (hpl4.bel.cell hblk).trans HC.out; obtain ⟨v5, w5, hr5, ho5, hg5, hn5⟩ := app_any w4 b v7 x 45 ins l hpl4.r7 hpl4.le (Src.below HSx.out (by rw [HBS.out]; exact hpl4.bel)) (by omega); have HP5 := Lib.hid (hpl4.app7 hg5 ho5 hn5); clear hpl4 q1 q2 q3 ho5 hg5 hn5; have hcy5 : w5.cell? (ay.add k) = some (.int .i64 y) := (HP5.out.bel.cell hblky).trans HCy.out; have HFit : Hid (outs.length + (held ++ l).length ≤ 1048576) := Lib.hid (by first | omega | (rw [List.length_append]; omega)); have HTk := Lib.hid (take_any w5 b g4 0 1048576 y (held ++ l) HP5.out.q (by omega) (by first | omega | (rw [List.length_append]; omega))))
          | (go_at_call 28; refine (HNum _ _).out.mono ?_; rintro e w2 ⟨rfl, rfl⟩)
          | (at_builtin; refine wpList_append_at _ rfl _ _ _ _ rfl _ _ rfl rfl _ _ hr7 ?_)
          | (go_at_call 39; go_loud (refine HTk.out.mono ?_; rintro e w6 ⟨v9, rfl, t1, t2, t3⟩; rw [Nat.zero_sub] at t2; have hpl6 := HP5.out.upd t3 t2 (.inl rfl); obtain ⟨v8', w7, hr7, ho7, hg7, hn7⟩ := app_any w6 b v8 v9 45 outs ((held ++ l).take (giveN y (held ++ l).length)) hpl6.r8 hpl6.le (Src.of_own t1 (giveN_len _ _).symm) (giveN_fit y _ _ HFit.out); have HP7 := Lib.hid (hpl6.app8 hg7 ho7 hn7); clear hpl6 t1 t2 t3 ho7 hg7 hn7)))
        go_roundw
        case rel => exact ⟨k + 1, _, _, by omega, rfl, rfl, by go_num, g4, ins ++ l, outs ++ (held ++ l).take (giveN y (held ++ l).length), (held ++ l).drop (giveN y (held ++ l).length), HP7.out, by rw [List.append_assoc, List.take_append_drop, ← List.append_assoc, ← HI.out], HIn.out.symm⟩
        case measure => simp [RowKit.intOf]; omega
      · obtain ⟨g, ins, outs, held, hpl, hio, hin⟩ := HO.out
        have hil : ins.length ≤ 1048576 := by rw [hin]; exact Nat.le_trans (take_le ls k) HS.out
        have hhl : outs.length + held.length ≤ 1048576 := by rw [← List.length_append, ← hio]; exact hil
        obtain ⟨a, x, rfl, hcx, hsx⟩ := HP.out k _ (List.getElem?_eq_getElem hi1)
        have hblk : (a.add k).block < b := by have := block_lt_of_cell hcx; rw [HBS.out] at this; exact this
        have hin2 := take_step ls k hi1
        rw [← hin] at hin2
        have hle2 := take_le ls (k + 1)
        rw [hin2] at hle2
        generalize ls[k] = l at hsx hin2 hle2
        have hfit : ins.length + l.length ≤ 1048576 := by rw [← List.length_append]; exact Nat.le_trans hle2 HS.out
        have hfit2 : outs.length + held.length + l.length ≤ 1048576 := by rw [← List.length_append, ← hio]; exact hfit
        have hcx1 := (hpl.bel.cell hblk).trans hcx
        have hsx1 : Src wr x l := Src.below hsx (by rw [HBS.out]; exact hpl.bel)
        have hbA : Below wr.heap.size wr (wr.alloc (.cells #[] 5)) := (Below.refl _ _).alloc (Nat.le_refl _) _
        have hcxA : (wr.alloc (.cells #[] 5)).cell? (a.add k) = some x := (hbA.cell (block_lt_of_cell hcx1)).trans hcx1
        have own0 : (wr.alloc (.cells #[] 5)).ownsRow wr.heap.size 5 1 (.slice (some ⟨wr.heap.size, 0, none⟩) 0 0) 0 [] := World.ownsRow_made wr #[] 0 (Nat.le_refl _) (Nat.zero_le _) rfl
        obtain ⟨v1, W1, hr1, ho1, hg1, -⟩ := app_any (wr.alloc (.cells #[] 5)) wr.heap.size (.slice (some ⟨wr.heap.size, 0, none⟩) 0 0) x 45 [] l own0 hbA.size (hsx1.below hbA) (by simp; omega)
        rw [List.nil_append] at ho1
        have hb1 : Below wr.heap.size wr W1 := hbA.trans (bel_grown own0 hg1 hbA.size)
        have HPut := Lib.hid (put_own W1 b g wr.heap.size v1 held l (hpl.q.below hb1) ho1 hpl.q.lt hpl.q.ltg (by omega))
        have HP4 := Lib.hid (hpl.below hb1)
        have HC := Lib.hid hcx
        have HSx := Lib.hid hsx
        have HI := Lib.hid hio
        clear hpl hb1 hg1 ho1 own0 hsx1 hcx hsx hle2 hin hio
        have HIn := Lib.hid hin2
        clear hin2
        go_wp2_with (first
          | (at_builtin; refine wpList_append_at _ rfl _ _ _ _ rfl _ _ rfl rfl _ _ hr1 ?_)
          | (at_builtin; refine wpList_append_at _ rfl _ _ _ _ rfl _ _ rfl rfl _ _ hr5 ?_)
          | (go_at_call 38; refine HPut.out.mono ?_; rintro e w4 ⟨rfl, g4, q1, q2, q3⟩; have hpl4 := HP4.out.upd q3 q1 q2; have hcx4 : w4.cell? (a.add k) = some x := (hpl4.bel.cell hblk).trans HC.out; obtain ⟨v5, w5, hr5, ho5, hg5, hn5⟩ := app_any w4 b v7 x 45 ins l hpl4.r7 hpl4.le (Src.below HSx.out (by rw [HBS.out]; exact hpl4.bel)) (by omega); have HP5 := Lib.hid (hpl4.app7 hg5 ho5 hn5); clear hpl4 q1 q2 q3 ho5 hg5 hn5)
          | (go_at_call 28; refine (HNum _ _).out.mono ?_; rintro e w2 ⟨rfl, rfl⟩))
        go_roundw
        case rel => exact ⟨k + 1, _, _, by omega, rfl, rfl, by go_num, g4, ins ++ l, outs, held ++ l, HP5.out, by rw [HI.out, List.append_assoc], HIn.out.symm⟩
        case measure => simp [RowKit.intOf]; omega
    · by_cases hi2 : k < xs.length
      · obtain ⟨g, ins, outs, held, hpl, hio, hin⟩ := HO.out
        have hil : ins.length ≤ 1048576 := by rw [hin]; exact Nat.le_trans (take_le ls k) HS.out
        have hhl : outs.length + held.length ≤ 1048576 := by rw [← List.length_append, ← hio]; exact hil
        have HP5 := Lib.hid hpl
        have HI := Lib.hid hio
        have HIn := Lib.hid ((take_past ls k hi1).trans hin.symm)
        obtain ⟨ay, rfl, hcy⟩ := HX.out k _ (List.getElem?_eq_getElem hi2)
        have hblky : (ay.add k).block < b := by have := block_lt_of_cell hcy; rw [HBS.out] at this; exact this
        generalize xs[k] = y at hcy
        have HCy := Lib.hid hcy
        clear hcy
        have hcy5 : wr.cell? (ay.add k) = some (.int .i64 y) := (HP5.out.bel.cell hblky).trans HCy.out
        have HFit : Hid (outs.length + (held).length ≤ 1048576) := Lib.hid (by first | omega | (rw [List.length_append]; omega))
        have HTk := Lib.hid (take_any wr b g 0 1048576 y (held) HP5.out.q (by omega) (by first | omega | (rw [List.length_append]; omega)))
        clear hpl hio hin
        go_wp2_with (first
          | (at_builtin; refine wpList_append_at _ rfl _ _ _ _ rfl _ _ rfl rfl _ _ hr7 ?_)
          | (go_at_call 39; go_loud (refine HTk.out.mono ?_; rintro e w6 ⟨v9, rfl, t1, t2, t3⟩; rw [Nat.zero_sub] at t2; have hpl6 := HP5.out.upd t3 t2 (.inl rfl); obtain ⟨v8', w7, hr7, ho7, hg7, hn7⟩ := app_any w6 b v8 v9 45 outs ((held).take (giveN y (held).length)) hpl6.r8 hpl6.le (Src.of_own t1 (giveN_len _ _).symm) (giveN_fit y _ _ HFit.out); have HP7 := Lib.hid (hpl6.app8 hg7 ho7 hn7); clear hpl6 t1 t2 t3 ho7 hg7 hn7)))
        go_roundw
        case rel => exact ⟨k + 1, _, _, by omega, rfl, rfl, by go_num, g, ins, outs ++ (held).take (giveN y (held).length), (held).drop (giveN y (held).length), HP7.out, by rw [List.append_assoc, List.take_append_drop, ← HI.out], HIn.out.symm⟩
        case measure => simp [RowKit.intOf]; omega
      · obtain ⟨g, ins, outs, held, hpl, hio, hin⟩ := HO.out
        have hil : ins.length ≤ 1048576 := by rw [hin]; exact Nat.le_trans (take_le ls k) HS.out
        have hhl : outs.length + held.length ≤ 1048576 := by rw [← List.length_append, ← hio]; exact hil
        have hgn : giveN 1048576 held.length = held.length := by unfold giveN; rw [if_neg (by omega)]; omega
        have hpk := peek_any wr b g 1048576 0 1048576 held hpl.q (by omega)
        rw [hgn, List.take_length] at hpk
        have HPk := Lib.hid hpk
        have HP0 := Lib.hid hpl
        have hcat : (⟨outs.toArray⟩ : ByteArray) ++ ⟨held.toArray⟩ = ⟨ins.toArray⟩ := by
          apply ByteArray.ext
          rw [ByteArray.data_append, hio]
          simp
        clear hpk hpl hgn hin hio
        go_wp2_with (first
          | (go_at_call 40; refine HPk.out.mono ?_; rintro e w6 ⟨v9, rfl, t1, t2⟩; obtain ⟨ao9, c9, rfl⟩ := own_shape t1; have hpl6 := HP0.out.below t2; have s7 := conv_own w6 b v7 ins hpl6.r7; have s8 := conv_own w6 b v8 outs hpl6.r8; have s9 := conv_own w6 wr.heap.size _ held t1; have hln := len_yes w6 b g 1048576 0 _ hpl6.q (by rw [bVs_len]; omega); rw [bVs_len] at hln; have HLn := Lib.hid hln; have HP6 := Lib.hid hpl6; clear hln hpl6 t1 t2)
          | (go_at_call 36; refine HLn.out.mono ?_; rintro e w8 ⟨rfl, hd8⟩))
        go_ret
        exact ⟨rfl, HP6.out.bel.trans (hd8.below b)⟩


set_option maxRecDepth 100000 in
theorem readsAsciiOrder (os : Os) {H : Type} (enc : TypeId × Value → H) : ∃ places, DataW.whole enc Tryd.prog ((World.laidAll Tryd.prog os Rows.asciiOrderRow.laid).forCall (fun _ _ => 0) ⟨#[], #[.slice none 0 0, .slice none 0 0], []⟩).memory Tryd.f8.params.toList Rows.asciiOrderSpec.vars false #[.slice none 0 0, .slice none 0 0].toList 8 = some ([.nil, .nil], [], places) :=
  ⟨[], by kernel_rfl⟩

set_option maxRecDepth 100000 in
theorem uptoAsciiOrder (os : Os) (started : os.Started) (H : Type) (enc : TypeId × Value → H) (F : Stop.Interp) :
    ReturnsInHanded {} Tryd.checked os 8 .any ((Rows.OpenSpec.upto Rows.asciiOrderSpec).preRow enc Tryd.prog Tryd.f8 Rows.asciiOrderUptoRow.domain false Rows.asciiOrderUptoRow.laid) (((Rows.OpenSpec.upto Rows.asciiOrderSpec).at F).post enc Tryd.prog Tryd.f8 false true false false) := by
  obtain ⟨places, hx⟩ := readsAsciiOrder os enc
  have hok : Input.okWideB Tryd.prog ((World.laidAll Tryd.prog os Rows.asciiOrderRow.laid).forCall (fun _ _ => 0) ⟨#[], #[.slice none 0 0, .slice none 0 0], []⟩) 8 ⟨#[], #[.slice none 0 0, .slice none 0 0], []⟩ = true := by kernel_rfl
  refine returnsInHanded_of_row (C := Tryd.checked) (s := Rows.OpenSpec.upto Rows.asciiOrderSpec) Cls.own started (by kernel_rfl) Tryd.func8
    ⟨World.laidAll Tryd.prog os Rows.asciiOrderRow.laid, fun _ _ => 0, ⟨#[], #[.slice none 0 0, .slice none 0 0], []⟩, World.laidAll_os _ _ _, World.shaped_of_ZipB (by kernel_rfl) (by kernel_rfl), (Input.okWide_of_okWideB (base := 0) hok).1, (Input.okWide_of_okWideB hok).2,
      OpenSpec.preRow_of_cond 8 hx (by kernel_rfl) (fun k hk => by cases hk; kernel_rfl) (by kernel_rfl) (by rw [MakeChecks.laidMetH_plain _ _ _ (by kernel_rfl)]; exact laidMet_laidAll _ (by kernel_rfl) (by kernel_rfl)), by
      simp only [Assume.holds]
      exact ⟨by simp, by simp, fun _ => Modest.zero, by simp, by simp⟩⟩ ?_
  intro W base args ds gs before hval0 hW _ hk hsz hL _ _
  have hval : ∀ (j : Nat) t v, Tryd.f8.params[j]? = some t → args[j]? = some v → Value.okWide Tryd.prog W .any base t v := hval0
  have hW' := hW
  obtain ⟨p, q, hA0, hV, rfl, _, _⟩ := hW
  have hA : DataW.TrodAll enc Tryd.prog W 0 (fun _ => true) true Tryd.f8.params.toList args.toList ds p := hA0
  obtain ⟨rfl, rfl⟩ := trodVars_none hV
  rw [MakeChecks.laidMetH_plain _ _ _ (by kernel_rfl)] at hL
  have hbulk : Rows.uptoBulkAll (ds ++ []) ≤ 1048576 := of_decide_eq_true (hk _ rfl)
  have hlt : ∀ x ∈ p, x.block < W.heap.size := fun x hx => hW'.lt x (by simpa using hx)
  have fin : ∀ W', Below W.heap.size W W' → (Rows.asciiOrderSpec.fn H (ds ++ [])).results = [.lit (.bool true)] → (Rows.asciiOrderSpec.fn H (ds ++ [])).args = ds → (Rows.asciiOrderSpec.fn H (ds ++ [])).vars = [] → Rows.asciiOrderSpec.post enc Tryd.prog Tryd.f8 false true false false W args (.bool true) W' := by
    intro W' hb h1 h2 h3
    refine ⟨ds, [], _, [], p, [], hW', ?_, ?_, ?_, hb.frame _, fun h => by cases h⟩
    · rw [h1]; exact trodAll_mk1 (shut_bool Tryd.underlying4 _)
    · rw [h2]; exact Cls.trodAll_below Cls.laidOut hb _ _ _ _ hA (Cls.readable _ (by kernel_rfl)) hlt
    · rw [h3]; rfl
  rw [Tryd.params8] at hA hval
  obtain ⟨v0, v1, d0, d1, p0, p1, rfl, rfl, rfl, h0, h1⟩ := trodAll_two hA
  obtain ⟨ao, ls, ca, rfl, hp, hb0⟩ := open_pieces (hval 0 _ v0 rfl rfl) h0
  obtain ⟨ai, xs, ci, rfl, hx, hb1⟩ := open_nums (hval 1 _ v1 rfl rfl) h1
  have hbk : Rows.uptoBulk d0 + Rows.uptoBulk d1 ≤ 1048576 := by
    simp only [List.cons_append, List.nil_append, Rows.uptoBulkAll] at hbulk
    omega
  refine (lawOrder ao ai ca ci ls xs W _ rfl hp hx (by omega) (by omega) (by omega)).mono fun e W' ⟨he, hb⟩ => ?_
  subst he
  exact ⟨_, rfl, fin W' hb rfl rfl rfl⟩

theorem saidAsciiOrder : Rows.AsciiOrderUptoSaid :=
  OpenClaim.holds_of_cond 8 Tryd.f8 rfl rfl rfl rfl rfl rfl rfl ⟨rfl, rfl, rfl, rfl, rfl⟩ rfl rfl rfl rfl rfl (by kernel_rfl) Tryd.func8 (by kernel_rfl)
    (of_decide_eq_true (by kernel_rfl)) (by unfold Func.isWrapper; first | (rw [if_pos (by decide +kernel)]; kernel_rfl) | (rw [if_neg (by decide +kernel)]; exact ⟨rfl, rfl⟩))
    (fun os started H enc _ F => by rw [OpenClaim.pre_eq_preRow]; exact uptoAsciiOrder os started H enc F)
end Go.Proofs.YtbekebdgmgjpgaaDoor.Asc
namespace Go.Proofs.YtbekebdgmgjpgaaDoor
open Go

theorem asciiOrder_holds : Rows.AsciiOrderUptoCardSaid :=
  Claim7.holds_tied_plain_at .later [] _ _ _ _ Asc.saidAsciiOrder (fun _ h => by cases h) (by kernel_rfl) (fun _ h => by cases h) asciiOrderUpto_row_tie rfl ⟨rfl, rfl⟩ (by kernel_rfl) rfl
    (fun f fn hf hfn => by
      obtain rfl : f = 8 := Option.some.inj ((show Tryd.prog.funcNamed "gatehouse/gatehouselaw01.AsciiOrder" = some 8 by kernel_rfl).symm.trans hf) |>.symm
      obtain rfl : fn = Tryd.f8 := (Option.some.inj (Tryd.func8.symm.trans hfn)).symm
      exact ⟨by kernel_rfl, fun j t ht => by
        rw [Tryd.params8] at ht
        have hm : t ∈ [63, 64] := by simpa using Array.mem_of_getElem? ht
        have hall : ([63, 64].all fun u => !Tryd.prog.wantsStandIn u) = true := by kernel_rfl
        exact (show Tryd.prog.wantsStandIn t = false by simpa using List.all_eq_true.1 hall t hm)⟩)
    (by kernel_rfl)
end Go.Proofs.YtbekebdgmgjpgaaDoor
