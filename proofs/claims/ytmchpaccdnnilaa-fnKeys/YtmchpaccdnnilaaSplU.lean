/- What the program's parting of a text into keys answers. -/
import Derived.Test.YtmchpaccdnnilaaSplT
import Derived.Test.YtmchpaccdnnilaaSplK
import Derived.Test.YtmchpaccdnnilaaSplN
namespace Go.Proofs.Ytmchpaccdnnilaa.Tr
open Go.RowKit
set_option linter.unusedVariables false

theorem Rd.grown {w w' : World} {G b : Nat} {m : Int} {s : ByteArray} {row : Option Nat} (h : Rd w G b m s) (hg : w.grownBy w' row) (hr : ∀ g, row = some g → b < g) : Rd w' G b m s := by
  have hc : Chg (b + 1) (w'.heap.size + w.heap.size + b + 2) w w' := ⟨hg.os, hg.tape, hg.output, hg.size, fun k hk ho => hg.block k hk (fun e => by have := hr k e.symm; omega)⟩
  obtain ⟨A, hA, r⟩ := h.blk
  exact ⟨⟨A, by rw [hc.block b h.lt (.inl (by omega))]; exact hA, r⟩, h.gb, by rw [hc.cell (Nat.lt_trans h.gb h.lt) (.inl (by have := h.gb; omega))]; exact h.gm⟩
theorem own_none (w : World) (base : Nat) : OwnS w base (.slice none 0 0) [] := ⟨rfl, .inl ⟨rfl, rfl⟩⟩
theorem OwnS.low {w : World} {b1 b2 : Nat} {v : Value} {l : List ByteArray} (h : OwnS w b1 v l) (hb : b2 ≤ b1) : OwnS w b2 v l := by
  obtain ⟨h1, h2⟩ := h
  refine ⟨h1, ?_⟩
  rcases h2 with h2 | ⟨g, cap, cur, hv, hg, r⟩
  · exact .inl h2
  · exact .inr ⟨g, cap, cur, hv, Nat.le_trans hb hg, r⟩

set_option maxRecDepth 4000 in
set_option maxHeartbeats 1000000 in
theorem implSplit_any (s : ByteArray) (n : Int) (m : Int) (w : World) (hs : s.size ≤ 1048576) (hg : Try.laysCut_ren.g 1 < w.heap.size) (hm : w.cell? ⟨Try.laysCut_ren.g 1, 0, none⟩ = some (.int .i64 m)) :
    Calls Try.prog 10 #[.string s, .int .i64 n] w fun e w' => SplR s n w e w' := by
  obtain ⟨i0, hi, hz0, hz1, hz2⟩ := info_parts infoStr
  by_cases hl : 65536 < s.size
  · go_enter Try.func10, Try.ntmps10
    go_wp2
    go_ret2
    exact SplR.long hl (own_none _ _) (Below.refl _ _)
  have hs2 : s.size ≤ 65536 := by omega
  by_cases hn : 0 ≤ n ∧ n ≤ 8
  · obtain ⟨N, rfl⟩ : ∃ N : Nat, n = N := ⟨n.toNat, by omega⟩
    have hN8 : N ≤ 8 := by omega
    have hnn : ((N : Int)).toNat = N := by omega
    have HN : Hid _ := hn
    have HM0 : Hid _ := hm
    have HG : Hid _ := hg
    clear hn hm hg
    go_enter Try.func10, Try.ntmps10
    go_wp2_with (go_at_call 25; refine (newReader_any _ m s _ HG.out HM0.out).mono ?_; rintro e w1 ⟨rfl, hb1, hr1⟩)
    have hz1' := hr1.lt
    go_loopw [6, 22] (fun o i wr => ∃ (k : Nat) (done : List ByteArray) (rest : ByteArray), i = .int .i64 k ∧ Mid s N k done rest ∧ OwnS wr (w.heap.size + 1) o done ∧ Below w.heap.size w wr ∧ Rd wr (Try.laysCut_ren.g 1) w.heap.size m rest) (fun _ i _ => N - (intOf i).toNat)
    case atStart => exact ⟨0, [], s, rfl, Mid.start s N, own_none _ _, hb1, hr1⟩
    case round =>
      obtain ⟨k, done, rest, rfl, hM, hown, hbel, hrd⟩ := hrel
      clear hb1 hr1 hz1'
      have HM : Hid (Mid _ _ _ _ _) := hM
      have HO : Hid (OwnS _ _ _ _) := hown
      have HB : Hid (Below _ _ _) := hbel
      have HR : Hid (Rd _ _ _ _ _) := hrd
      have hdl := hM.1
      have hkN := hM.2.1
      have hrs := hM.2.2.1
      have hz := hbel.size
      have hrl := hrd.lt
      have c0 := hrd.c0
      clear hM hown hbel hrd
      by_cases hlt : k < N
      · obtain ⟨L, hL⟩ : ∃ L, lenK s.size rest = L := ⟨_, rfl⟩
        have HL : Hid _ := hL
        clear hL
        by_cases hL0 : L = 0
        · go_wp2_with (go_at_call 26; refine (take_no s.size _ m rest _ HR.out hrs (by omega) (HL.out.trans hL0)).mono ?_; rintro e w2 ⟨rfl, g1⟩)
          go_ret2
          exact SplR.form hl HN.out (by rw [hnn]; exact HM.out.bad hlt (HL.out.trans hL0)) (own_none _ _) (HB.out.trans (g1.below (Nat.le_refl _) (by omega)))
        · go_wp2_with (first
            | (go_at_call 26; refine (take_yes s.size _ m rest _ HR.out hrs (by omega) L HL.out hL0).mono ?_; rintro e w2 ⟨rfl, g1, g2⟩; have hrow := g1.owns HO.out (fun g hg => .inr (HO.out.lt g hg).1); have hzz := g1.size; have G1 : Hid (Chg _ _ _ _) := g1; have G2 : Hid (Rd _ _ _ _ _) := g2; have hgl := g2.lt; clear g1 g2)
            | (at_builtin; refine wpList_append_own _ rfl (.tmp 31) (.tmp 33) 31 rfl (w.heap.size + 1) 9 i0 (.string ByteArray.empty) 1 16 Try.underlying31 hi hz0 hz1 hz2 rfl (by decide) _ _ _ rfl (hrow.alloc _) ⟨_, 0, none⟩ 1 1 [.string (rest.extract 0 L)] rfl rfl ?c1 ?c2 ?c3 ?c4 ?c5 ?_))
          case c1 =>
            intro j u hj
            match j, hj with
            | 0, hj => simp at hj; subst hj; simp [Addr.add, go_sem]
            | j + 1, hj => simp at hj
          case c2 => intro u hu; simp at hu; subst hu; rfl
          case c3 => unfold maxLen; omega
          case c4 => omega
          case c5 => simp; omega
          intro v' w3 hown2 hgrow hnv
          have hb2 : Below w.heap.size w w2 := HB.out.trans (G1.out.below (Nat.le_refl _) (by omega))
          have hb3 : Below w.heap.size w w3 := Below.grown (hb2.alloc (by omega) _) hgrow (by simp; omega) (fun b hb => by have := (hrow.lt b hb).1; omega)
          have hr3 : Rd w3 (Try.laysCut_ren.g 1) w.heap.size m (from_ rest L) := Rd.grown (G2.out.to ((Below.refl _ _).alloc (Nat.le_refl _) _)) hgrow (fun b hb => by have := (hrow.lt b hb).1; omega)
          have HR3 : Hid (Rd _ _ _ _ _) := hr3
          have HO2 : Hid (OwnS w3 (w.heap.size + 1) v' (done ++ [rest.extract 0 L])) := by unfold OwnS; rw [strV_app, List.length_append, hdl]; exact hown2
          clear hgrow hrow hown2 hnv hr3
          go_wp2_with fail
          go_roundw
          case rel => exact ⟨k + 1, _, _, by go_num, HM.out.next hlt L HL.out hL0, HO2.out, hb3, HR3.out⟩
          case measure => simp [intOf]; omega
      · obtain rfl : k = N := by omega
        by_cases h0 : 0 < rest.size
        · obtain ⟨n1, n2⟩ := ne_list2 rest h0
          go_wp2
          go_ret2
          exact SplR.form hl HN.out (by rw [hnn]; exact HM.out.left h0) (own_none _ _) HB.out
        · have hr0 : rest.size = 0 := by omega
          have HF : Hid _ := HM.out.fin hr0
          obtain rfl := empty_of rest hr0
          go_wp2
          go_ret2
          exact SplR.good hl HN.out (by rw [hnn]; exact HF.out) (HO.out.low (by omega)) HB.out
  · by_cases hn0 : n < 0
    · go_enter Try.func10, Try.ntmps10
      go_wp2
      go_ret2
      exact SplR.range hl hn (own_none _ _) (Below.refl _ _)
    · have hn8 : 8 < n := by omega
      go_enter Try.func10, Try.ntmps10
      go_wp2
      go_ret2
      exact SplR.range hl hn (own_none _ _) (Below.refl _ _)

end Go.Proofs.Ytmchpaccdnnilaa.Tr
