/- A Line on both queues. -/
import Derived.Test.YtaibehfpbcgijaaDoorAscZ3
namespace Go.Proofs.YtaibehfpbcgijaaDoor.Asc
open Go.RowKit Go.Shelf

theorem src_upd {W W' : World} {c m cv : Nat} {ao : Option Addr} {l : List UInt8} (h : Src W (.slice ao m cv) l) (u : Upd c c W W') (hne : ∀ a, ao = some a → a.block ≠ c) : Src W' (.slice ao m cv) l := by
  rcases h with ⟨hv, hl⟩ | ⟨a, c', hv, hc⟩
  · exact .inl ⟨hv, hl⟩
  · refine .inr ⟨a, c', hv, fun j v hj => ?_⟩
    cases hv
    have := hne a rfl
    exact u.cell (hc j v hj) (by rw [Lib.block_add]; exact this) (by rw [Lib.block_add]; exact this)

theorem stp_line {W V w1 w2 : World} {b g c k k2 s i : Nat} {lim : Int} {l : List UInt8} (h : Pr W b g c k s lim l) (hv : Below W.heap.size W V) (hi : i < l.length) (t2 : Bf w1 b g lim 0 (bVs (l.drop (i + 1)))) (t3 : Upd b g V w1)
    (r2 : Rq w2 c k2 lim (l.drop (i + 1))) (r3 : k2 = c ∨ w1.heap.size ≤ k2) (r4 : Upd c c w1 w2) : Stp W w2 b g c k lim := by
  have hcb := h.cb
  have hcg := h.cg
  refine ⟨g, k2, 0, l.drop (i + 1), ⟨?_, r2, Nat.zero_le _, fun j hj => by omega, ?_, h.h2, hcb, hcg, ?_, ?_⟩, .inl rfl, r3.imp id (fun q => .inr (Nat.le_trans (Nat.le_trans hv.size t3.size) q)), ((Up4.of_below hv).upd t3 (.inl rfl) (.inr (.inl rfl))).upd r4 (.inr (.inr (.inl rfl))) (.inr (.inr (.inl rfl)))⟩
  · exact t2.same (r4.block b t2.lt (Ne.symm hcb) (Ne.symm hcb)) (r4.block g t2.ltg (Ne.symm hcg) (Ne.symm hcg))
  · rw [List.length_drop]; have := h.hl; omega
  · rcases r3 with rfl | q
    · exact hcb
    · have := t2.lt; omega
  · rcases r3 with rfl | q
    · exact hcg
    · have := t2.ltg; omega

theorem stp_none {W V w1 : World} {b g c k s : Nat} {lim : Int} {l : List UInt8} (h : Pr W b g c k s lim l) (hv : Below W.heap.size W V) (t2 : Bf w1 b g lim (l.length : Int) (bVs l)) (t3 : Upd b g V w1) (hno : ∀ j : Nat, l[j]? ≠ some 10) : Stp W w1 b g c k lim := by
  have hV := h.below hv
  exact ⟨g, k, l.length, l, ⟨t2, hV.r.same (t3.block c hV.r.lt hV.cb hV.cg) (t3.block k hV.r.ltk hV.kb hV.kg), Nat.le_refl _, fun j _ => hno j, h.hl, h.h2, h.cb, h.cg, h.kb, h.kg⟩, .inl rfl, .inr (.inl rfl), (Up4.of_below hv).upd t3 (.inl rfl) (.inr (.inl rfl))⟩

set_option maxRecDepth 100000 in
set_option maxHeartbeats 4000000 in
theorem step_line (W : World) (b g c k s : Nat) (lim K N : Int) (ax : Option Addr) (nx cx : Nat) (l : List UInt8) (h : Pr W b g c k s lim l) (hK0 : K ≠ 0) (hK1 : K ≠ 1) (hK2 : K ≠ 2) :
    Calls Tryd.prog 35 #[.pointer (some ⟨b, 0, none⟩), .pointer (some ⟨c, 0, none⟩), .agg #[.int .i64 K, .int .i64 N, .slice ax nx cx]] W fun e w' => e = .returned (.bool true) ∧ Stp W w' b g c k lim := by
  have hlen := h.len
  have H := Lib.hid h
  obtain ⟨V, hV⟩ : ∃ V, V = W.alloc (.cells #[.int .i64 K, .int .i64 N, .slice ax nx cx] 47) := ⟨_, rfl⟩
  have hWV : Below W.heap.size W V := by rw [hV]; exact (Below.refl _ _).alloc (Nat.le_refl _) _
  have HPV := Lib.hid (h.below hWV)
  have HL := Lib.hid (line_any V b g s lim l HPV.out.q h.hs h.hno hlen)
  have HWV := Lib.hid hWV
  have HV := Lib.hid hV
  clear h hWV hV
  go_enter Tryd.func35, Tryd.ntmps35
  go_wp2_with fail
  rw [← HV.out]
  refine HL.out.mono ?_
  rintro e w1 (⟨rfl, t2, t3, hno⟩ | ⟨i, v, hi, hi10, hbef, rfl, hsv, t2, t3, ao, m, cv, rfl, hfr⟩)
  · have HS := Lib.hid (stp_none H.out HWV.out t2 t3 hno)
    have HR := Lib.hid (refLine_any w1 c k lim l (HPV.out.r.same (t3.block c HPV.out.r.lt HPV.out.cb HPV.out.cg) (t3.block k HPV.out.r.ltk HPV.out.kb HPV.out.kg)) hlen)
    have HNo := Lib.hid hno
    have s1 := conv_src w1 (.slice none 0 0) [] (.inl ⟨rfl, rfl⟩)
    clear t2 t3 hno
    go_wp2_with fail
    refine HR.out.mono ?_
    rintro e w2 (⟨rfl, rfl, -⟩ | ⟨i, v2, k2, hi, hi10, -⟩)
    · go_wp2
      go_ret
      exact ⟨rfl, HS.out⟩
    · exact absurd hi10 (HNo.out i)
  · have HR := Lib.hid (refLine_any w1 c k lim l (HPV.out.r.same (t3.block c HPV.out.r.lt HPV.out.cb HPV.out.cg) (t3.block k HPV.out.r.ltk HPV.out.kb HPV.out.kg)) hlen)
    have HA := Lib.hid (And.intro hi10 hbef)
    have HT2 := Lib.hid t2
    have HT3 := Lib.hid t3
    have HSv := Lib.hid hsv
    have HFr := Lib.hid hfr
    clear t2 t3 hsv hi10 hbef hfr
    go_wp2_with fail
    refine HR.out.mono ?_
    rintro e w2 (⟨rfl, rfl, hno⟩ | ⟨i2, v2, k2, hi2, hi210, hbef2, rfl, hsv2, r2, r3, r4⟩)
    · exact absurd HA.out.1 (hno i)
    · obtain rfl : i2 = i := by
        rcases Nat.lt_trichotomy i2 i with q | q | q
        · exact absurd hi210 (HA.out.2 i2 q)
        · exact q
        · exact absurd HA.out.1 (hbef2 i q)
      have s2 := conv_src w2 v2 _ hsv2
      have HV2 : ∃ ao2 m2 cv2, v2 = .slice ao2 m2 cv2 := by
        rcases hsv2 with ⟨hv, _⟩ | ⟨a, c', hv, _⟩
        · exact ⟨_, _, _, hv⟩
        · exact ⟨_, _, _, hv⟩
      have HS := Lib.hid (stp_line H.out HWV.out hi HT2.out HT3.out r2 r3 r4)
      have s1 := conv_src w2 (.slice ao m cv) _ (src_upd HSv.out r4 (fun a ha => by
        have := HFr.out a ha
        have := HPV.out.r.lt
        omega))
      clear r2 r3 r4 hsv2 hbef2 hi210
      generalize (⟨(lineL (l.take i2)).toArray⟩ : ByteArray) = str at s1 s2
      obtain ⟨ao2, m2, cv2, rfl⟩ : ∃ ao2 m2 cv2, v2 = .slice ao2 m2 cv2 := HV2
      go_wp2
      go_ret
      exact ⟨rfl, HS.out⟩

end Go.Proofs.YtaibehfpbcgijaaDoor.Asc
