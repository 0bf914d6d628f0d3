/- The statement LzBack: a text that was cut into pieces is put together as it was; each copy lies within the window. -/
import Derived.Test.YtenkbmkecgnfmaaLzBk
import Derived.Test.YtenkbmkecgnfmaaLzN
import Derived.Test.YtenkbmkecgnfmaaLzU
import Derived.Test.YtenkbmkecgnfmaaLzQ
namespace Go.Proofs.Ytenkbmkecgnfmaa.Lz
open Go.RowKit Go.Shelf Go.Lib Go.Proofs.Ytenkbmkecgnfmaa.Mem Go.Proofs.Ytenkbmkecgnfmaa.Huf
open Go.ChangeShapes Go.WideShapes Go.ChangeAt

set_option maxHeartbeats 8000000 in
set_option maxRecDepth 100000 in
theorem lawBack (W : World) (ao : Option Addr) (c : Nat) (b : List UInt8) (window depth : Int) (hs : Src W (.slice ao b.length c) b) (hl : b.length ≤ 140737488355326) :
    Calls Try.prog 7 #[.slice ao b.length c, .int .i64 window, .int .i64 depth] W fun e w' => e = .returned (.bool true) ∧ Below W.heap.size W w' := by
  have HS : Aside (Src W (.slice ao b.length c) b) := hs
  obtain ⟨v1, W1, hr1, ho1, hb1⟩ := fresh_any W (.slice ao b.length c) 32 b hs (by omega)
  obtain ⟨a1, c1, rfl, hcap1, -, -⟩ := own_shape ho1
  have HN := fun n w => Lib.hid (num_any n w)
  have HK := fun w => Lib.hid (knows_any w)
  have HP := Lib.hid (pieces_any W1 a1 c1 b window depth (Src.of_own ho1 rfl) hcap1)
  have HB1 : Aside (Below W.heap.size W W1) := hb1
  clear ho1 hb1 hs hcap1
  rcases piecesR_cases b window depth with ⟨h1, h2, -⟩ | ⟨wd, dp, rfl, rfl, h1, h2, h3, h4, h5⟩
  · generalize piecesR b window depth = r at *
    obtain ⟨xs, er⟩ := r
    simp only at h1 h2 HP
    subst h2
    have he : (er != 0) = true := by rw [bne_iff_ne]; exact h1
    go_enter Try.func7, Try.ntmps7
    go_wp2_with (first
      | (at_builtin; refine wpList_append_at _ rfl _ _ _ _ rfl _ _ rfl rfl _ _ hr1 ?_)
      | (go_at_call 17; refine HP.out.mono ?_; rintro e w2 ⟨v2, rfl, ho2, hb2⟩; obtain ⟨a2, c2, rfl, -, -, -⟩ := own_shape ho2; have HB2 : Aside (Below W.heap.size W w2) := HB1.out.trans (hb2.mono HB1.out.size); clear ho2 hb2)
      | (go_at_call 20; refine (HN _ _).out.mono ?_; rintro e w3 ⟨rfl, rfl⟩)
      | (go_at_call 22; refine (HK _).out.mono ?_; rintro e w4 ⟨rfl, hb4⟩))
    go_ret
    exact ⟨rfl, HB2.out.trans (hb4.mono HB2.out.size)⟩
  · rw [h5] at HP
    have hok := pcs_okW b wd dp b.length 0 (by omega)
    have hback := expand_back b wd dp h2 h4
    have hlen := pcs_len b wd dp b.length 0 (by omega)
    generalize pcs b wd dp 0 = ps at *
    simp only at HP
    have HOK : Aside (∀ p ∈ ps, okW wd p) := hok
    have HE := fun w v (h : SrcP w v ps) => Lib.hid (expand_any w v ps (b.length : Int) h (fun p hp => okW_okPc (hok p hp) h2) (by omega))
    rw [hback] at HE
    simp only at HE
    clear h5 hok hback
    go_enter Try.func7, Try.ntmps7
    go_upto_region 4 with (first
      | (at_builtin; refine wpList_append_at _ rfl _ _ _ _ rfl _ _ rfl rfl _ _ hr1 ?_)
      | (go_at_call 17; refine HP.out.mono ?_; rintro e w2 ⟨v2, rfl, ho2, hb2⟩; have HO2 : Aside (w2.ownsRow W1.heap.size 45 3 v2 ps.length (pcsCells ps) ∧ Below W.heap.size W w2) := ⟨ho2, HB1.out.trans (hb2.mono HB1.out.size)⟩; clear ho2 hb2)
      | (go_at_call 20; refine (HN _ _).out.mono ?_; rintro e w3 ⟨rfl, rfl⟩)
      | (go_at_call 22; refine (HK _).out.mono ?_; rintro e w4 ⟨rfl, hb4⟩))
    have hbW4 : Below W.heap.size W w4 := HO2.out.2.trans (hb4.mono HO2.out.2.size)
    have hsp : SrcP w4 v2 ps := SrcP.of_own (own_below HO2.out.1 hb4) rfl
    obtain ⟨vo, vc, rfl, hvo⟩ := hsp.shape
    have H4 : Aside (Below W.heap.size W w4 ∧ SrcP w4 (.slice vo ps.length vc) ps) := ⟨hbW4, hsp⟩
    have HV : Aside (0 < ps.length → ∃ a, vo = some a) := hvo
    have hwdz : (wd : Int) ≤ 32768 := by omega
    clear hbW4 hsp hvo hb4
    go_upto_region 5 with fail
    go_loopg [9] ps.length (fun kx s9 wr => ∃ (i : Nat), s9 = .int .i64 i ∧ i ≤ ps.length ∧ ps.length - i ≤ kx ∧ Aside (Below w4.heap.size w4 wr))
    case atStart => exact ⟨0, rfl, Nat.zero_le _, Nat.le_refl _, Below.refl _ _⟩
    case round =>
      obtain ⟨i, rfl, hi, hkx, HR⟩ := hrel
      by_cases hlt : i < ps.length
      · have hltz : (i : Int) < (ps.length : Int) := by omega
        have i0 : (0 : Int) ≤ (i : Int) := by omega
        have wi : IntKind.i64.wrap ((i : Int) + 1) = (i : Int) + 1 := by rw [IntKind.wrap_i64]; omega
        obtain ⟨a, rfl⟩ := HV.out (by omega)
        obtain ⟨k1, k2, k3⟩ := srcp_cells (H4.out.2.below HR.out) i hlt
        have hokp := HOK.out ps[i] (List.getElem_mem hlt)
        generalize ps[i] = p at *
        obtain ⟨l, d, y⟩ := p
        simp only at k1 k2 k3
        have hal : ∀ o, Aside (Below w4.heap.size w4 (wr.alloc o)) := fun o => HR.out.trans (((Below.refl _ wr).alloc (Nat.le_refl _) o).mono HR.out.size)
        have HAL := Lib.hid hal
        unfold okW at hokp
        simp only at hokp
        clear HR hal
        rcases hokp with ⟨q1, q2⟩ | ⟨q1, q2, q3, q4, q5⟩
        · subst q1 q2
          go_wp2_with fail
          go_roundg (ps.length - (i + 1))
          case measure => omega
          case rel => exact ⟨i + 1, by go_num, by omega, Nat.le_refl _, (HAL.out _).out⟩
        · have p1 : (l != 0) = true := by rw [bne_iff_ne]; omega
          have p1z : ¬ l = 0 := by omega
          have p2 : ¬ l < 3 := by omega
          have p3 : ¬ l > 258 := by omega
          have p4 : ¬ d < 1 := by omega
          have p5 : ¬ d > (wd : Int) := by omega
          have p6 : (l == 0) = false := by rw [beq_eq_false_iff_ne]; omega
          subst q5
          go_wp2_with fail
          go_roundg (ps.length - (i + 1))
          case measure => omega
          case rel => exact ⟨i + 1, by go_num, by omega, Nat.le_refl _, (HAL.out _).out⟩
      · obtain rfl : i = ps.length := by omega
        have hltz : ¬ (ps.length : Int) < (ps.length : Int) := by omega
        have HE2 := HE wr _ (H4.out.2.below HR.out)
        have HBR : Aside (Below W.heap.size W wr) := H4.out.1.trans (HR.out.mono H4.out.1.size)
        clear HE HR
        go_upto_region 11 with (go_at_call 23; refine HE2.out.mono ?_; rintro e w5 ⟨v5, rfl, ho5, hb5⟩)
        have hb5W : Below W.heap.size W w5 := HBR.out.trans (hb5.mono HBR.out.size)
        have s1 : (convert 32 9 v5).run Try.prog w5 = .ok (.string ⟨b.toArray⟩) w5 := conv_src _ _ b (Src.of_own ho5 rfl)
        have s2 : (convert 32 9 (.slice ao b.length c)).run Try.prog w5 = .ok (.string ⟨b.toArray⟩) w5 := conv_src _ _ b (HS.out.below hb5W)
        have HB5 : Aside (Below W.heap.size W w5) := hb5W
        clear ho5 hb5 hb5W
        generalize (⟨b.toArray⟩ : ByteArray) = str at s1 s2
        go_wp2_with (go_at_call 20; refine (HN _ _).out.mono ?_; rintro e w6 ⟨rfl, rfl⟩)
        go_ret
        exact ⟨rfl, HB5.out⟩

set_option maxRecDepth 100000 in
theorem liftedLzBack (os : Os) (started : os.Started) (H : Type) (enc : TypeId × Value → H) :
    ReturnsInHanded {} Try.checked os 7 .any (Rows.lzBackSpec.pre6 enc Try.prog Try.f7 [] false) (Rows.lzBackSpec.post enc Try.prog Try.f7 false true false false) := by
  have wit : ∃ (w : World) (tape : Tape) (i : Input), w.os = os ∧ (w.forCall tape i).Shaped Try.checked.prog ∧ i.vars = [] ∧ Input.okWide Try.checked.prog (w.forCall tape i) .any w.heap.size 7 i ∧
      Rows.lzBackSpec.pre6 enc Try.checked.prog Try.f7 [] false (w.forCall tape i).memory i.args ∧ ({} : Assume).holds Try.checked.prog (lone (Frame.enter Try.checked.prog 7 i.args .normal) [] (w.forCall tape i)) := by
    obtain ⟨w, tape, i, h1, h2, h3, h4, ⟨⟨h5, -⟩, h6⟩, h7⟩ := ChangeSpec.witness_shaped (enc := enc) (C := Try.checked) (os := os) (f := 7) (fn := Try.f7) (s := Rows.lzBackSpec) (conds := []) (apart := false) (X := fun _ _ => True) false (World.laidAll Try.prog os []) #[.slice none 0 0, .int .i64 0, .int .i64 0] 8 (World.laidAll_os _ _ _)
      (World.shaped_of_ZipB (by kernel_rfl) (by kernel_rfl)) (by kernel_rfl) (by kernel_rfl) (by kernel_rfl) trivial
    exact ⟨w, tape, i, h1, h2, h3, h4, ⟨h5, h6⟩, h7⟩
  refine returnsInHanded_of_change_sized (C := Try.checked) Cls.own started (by kernel_rfl) Try.func7 wit ?_
  intro W base args ds gs before hval0 hW _ hsz _
  have hval : ∀ (j : Nat) t v, Try.f7.params[j]? = some t → args[j]? = some v → Value.okWide Try.prog W .any base t v := hval0
  have hW' := hW
  obtain ⟨p, q, hA0, hV, rfl, _, _⟩ := hW
  have hA : DataW.TrodAll enc Try.prog W 0 (fun _ => true) true Try.f7.params.toList args.toList ds p := hA0
  obtain ⟨rfl, rfl⟩ := trodVars_none hV
  have hlt : ∀ x ∈ p, x.block < W.heap.size := fun x hx => hW'.lt x (by simpa using hx)
  have fin : ∀ W', Below W.heap.size W W' → (Rows.lzBackSpec.fn H (ds ++ [])).results = [.lit (.bool true)] → (Rows.lzBackSpec.fn H (ds ++ [])).args = ds → (Rows.lzBackSpec.fn H (ds ++ [])).vars = [] → Rows.lzBackSpec.post enc Try.prog Try.f7 false true false false W args (.bool true) W' := by
    intro W' hb h1 h2 h3
    refine ⟨ds, [], _, [], p, [], hW', ?_, ?_, ?_, hb.frame _, fun h => by cases h⟩
    · rw [h1]; exact trodAll_mk1 (shut_bool Try.underlying4 _)
    · rw [h2]; exact Cls.trodAll_below Cls.laidOut hb _ _ _ _ hA (Cls.readable _ (by kernel_rfl)) hlt
    · rw [h3]; rfl
  rw [Try.params7] at hA hval
  obtain ⟨v0, v1, v2, d0, d1, d2, p0, p1, p2, rfl, rfl, rfl, ⟨m0, h0⟩, h1, h2⟩ := trodAll_three hA
  obtain ⟨a0, l0, c0, rfl⟩ := okWide_slice Try.underlying32 (hval 0 _ v0 rfl rfl)
  obtain ⟨ab, bs, cb, e0, hs, -, hw0⟩ := bytes_of_trod h0
  have hl := hw0 _ (reach_of hsz (j := 0) rfl rfl)
  obtain ⟨n, rfl, rfl, rfl, _⟩ := open_int Try.underlying3 (hval 1 3 v1 rfl rfl) h1
  obtain ⟨x, rfl, rfl, rfl, _⟩ := open_int Try.underlying3 (hval 2 3 v2 rfl rfl) h2
  simp only [Value.cells, List.cons.injEq, and_true] at e0
  rw [e0] at fin ⊢
  refine (lawBack W ab cb bs n x hs (by omega)).mono fun e W' ⟨he, hb⟩ => ?_
  subst he
  exact ⟨_, rfl, fin W' hb rfl rfl rfl⟩

theorem saidLzBack : Rows.LzBackSaid :=
  OpenClaim.holds_of_wide 7 Try.f7 rfl rfl rfl rfl rfl rfl rfl ⟨rfl, rfl, rfl, rfl, rfl⟩ rfl rfl rfl rfl rfl (by kernel_rfl) Try.func7 (by kernel_rfl)
    (of_decide_eq_true (by kernel_rfl)) (by unfold Func.isWrapper; first | (rw [if_pos (by decide +kernel)]; kernel_rfl) | (rw [if_neg (by decide +kernel)]; exact ⟨rfl, rfl⟩))
    (fun os started H enc _ => liftedLzBack os started H enc)
end Go.Proofs.Ytenkbmkecgnfmaa.Lz
namespace Go.Proofs.Ytenkbmkecgnfmaa
open Go

theorem lzBack_holds : Rows.LzBackSaid := Lz.saidLzBack
end Go.Proofs.Ytenkbmkecgnfmaa
