/- A new store: what the program answers. -/
import Derived.Test.YtlefpbgnkebmdaaGreatNsS
namespace Go.Proofs.YtlefpbgnkebmdaaGreat.Ns
open Go.RowKit Tr Co
set_option linter.unusedVariables false

set_option maxRecDepth 4000 in
set_option maxHeartbeats 4000000 in
theorem implNewStore_any (g c0 : Nat) (l : List ByteArray) (w : World) (hr : ReadS w g 0 l) (hl : l.length ≤ 1048576) (hs : ∀ v ∈ l, v.size ≤ 1048576) :
    Calls Tryz.prog 12 #[.slice (some ⟨g, 0, none⟩) l.length c0] w (NsR l w) := by
  have HRD : Hid (ReadS _ _ _ _) := hr
  have HSZ : Hid (∀ v ∈ l, v.size ≤ 1048576) := hs
  clear hr hs
  by_cases hbig : 4096 < l.length
  · have HC : Hid (nsC l = 2) := by show nsC l = 2; unfold nsC; rw [if_pos hbig]
    have hb' : (4096 : Int) < (l.length : Int) := by omega
    go_enter Tryz.func12, Tryz.ntmps12
    go_wp2_with fail
    refine bodyPost_ret (v := .tuple #[.agg #[.slice none 0 0, .slice none 0 0, .slice none 0 0, .int .i64 0], .int .i64 2]) (by simp [results, Tryz.results12, go_sem, *]) rfl (NsR.bad HC.out (by decide) ?_)
    (repeat (first | (with_reducible exact Below.refl _ _) | (with_reducible assumption) | (with_reducible apply below_drewN) | (with_reducible apply Below.drew) | ((with_reducible refine Below.setCell ?_ ?_ _); rotate_left; focus (first | (simp; done) | (simp; omega) | omega)) | ((with_reducible refine Below.alloc ?_ ?_ _); rotate_left; focus (first | (simp; done) | (simp; omega) | omega))))
  have hb' : ¬ (4096 : Int) < (l.length : Int) := by omega
  by_cases hcnt : l.length < 1 ∨ 3 < l.length
  · have HC : Hid (nsC l = 6) := by show nsC l = 6; unfold nsC; rw [if_neg hbig, if_pos hcnt]
    by_cases h1 : l.length < 1
    · have h1' : (l.length : Int) < 1 := by omega
      go_enter Tryz.func12, Tryz.ntmps12
      go_wp2_with fail
      refine bodyPost_ret (v := .tuple #[.agg #[.slice none 0 0, .slice none 0 0, .slice none 0 0, .int .i64 0], .int .i64 6]) (by simp [results, Tryz.results12, go_sem, *]) rfl (NsR.bad HC.out (by decide) ?_)
      (repeat (first | (with_reducible exact Below.refl _ _) | (with_reducible assumption) | (with_reducible apply below_drewN) | (with_reducible apply Below.drew) | ((with_reducible refine Below.setCell ?_ ?_ _); rotate_left; focus (first | (simp; done) | (simp; omega) | omega)) | ((with_reducible refine Below.alloc ?_ ?_ _); rotate_left; focus (first | (simp; done) | (simp; omega) | omega))))
    · have h1' : ¬ (l.length : Int) < 1 := by omega
      have h3' : (3 : Int) < (l.length : Int) := by omega
      go_enter Tryz.func12, Tryz.ntmps12
      go_wp2_with fail
      refine bodyPost_ret (v := .tuple #[.agg #[.slice none 0 0, .slice none 0 0, .slice none 0 0, .int .i64 0], .int .i64 6]) (by simp [results, Tryz.results12, go_sem, *]) rfl (NsR.bad HC.out (by decide) ?_)
      (repeat (first | (with_reducible exact Below.refl _ _) | (with_reducible assumption) | (with_reducible apply below_drewN) | (with_reducible apply Below.drew) | ((with_reducible refine Below.setCell ?_ ?_ _); rotate_left; focus (first | (simp; done) | (simp; omega) | omega)) | ((with_reducible refine Below.alloc ?_ ?_ _); rotate_left; focus (first | (simp; done) | (simp; omega) | omega))))
  have HC0 : Hid (nsC l = chkN (lastN l 0) (l.drop 0)) := by show nsC l = _; unfold nsC; rw [if_neg hbig, if_neg hcnt]; rfl
  have h1' : ¬ (l.length : Int) < 1 := by omega
  have h3' : ¬ (3 : Int) < (l.length : Int) := by omega
  have hl3 : l.length ≤ 3 := by omega
  have M0 : Mk2 w ((w.alloc (.cells #[.slice none 0 0, .slice none 0 0, .slice none 0 0, .int .i64 0] 26)).alloc (.cells #[.slice none 0 0, .slice none 0 0, .slice none 0 0, .int .i64 0] 26)) (w.heap.size + 1) (.slice none 0 0) (.slice none 0 0) (.slice none 0 0) := by
    refine ⟨by (repeat (first | (with_reducible exact Below.refl _ _) | (with_reducible assumption) | (with_reducible apply below_drewN) | (with_reducible apply Below.drew) | ((with_reducible refine Below.setCell ?_ ?_ _); rotate_left; focus (first | (simp; done) | (simp; omega) | omega)) | ((with_reducible refine Below.alloc ?_ ?_ _); rotate_left; focus (first | (simp; done) | (simp; omega) | omega)))), by omega, ⟨_, _, _, _, (S4.new w _ _ _ _).al _⟩, ?_⟩
    have h := S4.new (w.alloc (.cells #[.slice none 0 0, .slice none 0 0, .slice none 0 0, .int .i64 0] 26)) (.slice none 0 0) (.slice none 0 0) (.slice none 0 0) (.int .i64 0)
    rw [show (w.alloc (.cells #[.slice none 0 0, .slice none 0 0, .slice none 0 0, .int .i64 0] 26)).heap.size = w.heap.size + 1 by simp] at h
    exact h
  clear hbig hcnt
  go_enter Tryz.func12, Tryz.ntmps12
  go_wp2_with fail
  generalize (w.alloc (.cells #[.slice none 0 0, .slice none 0 0, .slice none 0 0, .int .i64 0] 26)).alloc (.cells #[.slice none 0 0, .slice none 0 0, .slice none 0 0, .int .i64 0] 26) = W0 at M0 ⊢
  go_loopw [5, 24] (fun u i wr => ∃ (k : Nat) (pv : Option Addr) (cv : Nat) (ns : List NC), k ≤ l.length ∧ i = .int .i64 k ∧ u = .string (lastN l k) ∧ ns.map NC.n = l.take k ∧ nsC l = chkN (lastN l k) (l.drop k) ∧ Mk2 w wr (w.heap.size + 1) (.slice pv k cv) (.slice none 0 0) (.slice none 0 0) ∧ OwnN wr (w.heap.size + 2) (.slice pv k cv) ns) (fun _ i _ => l.length - (intOf i).toNat)
  case atStart => exact ⟨0, none, 0, [], Nat.zero_le _, rfl, rfl, rfl, HC0.out, M0, ⟨rfl, .inl ⟨rfl, rfl⟩⟩⟩
  case round =>
    obtain ⟨k, pv, cv, ns, hk, rfl, rfl, hns, hch, M, hO⟩ := hrel
    have HO : Hid (OwnN _ _ _ _) := hO
    have HM : Hid (Mk2 _ _ _ _ _ _) := M
    have HNS : Hid (ns.map NC.n = l.take k) := hns
    have hnl : ns.length = k := by have := congrArg List.length hns; simpa [Nat.min_eq_left hk] using this
    have hzG := M.s.lt
    have hbel := M.bel
    obtain ⟨a0, a1, a2, a3, hrr⟩ := M.r
    obtain ⟨rl, rc0, rc1, rc2, rc3, rf0, rf1, rf2, rf3⟩ := hrr.all
    obtain ⟨fl, fc0, fc1, fc2, fc3, ff0, ff1, ff2, ff3⟩ := M.s.all
    clear hO M0 HC0 hns
    by_cases hlt : k < l.length
    · have hlt2 : (k : Int) < (l.length : Int) := by omega
      have hrd := HRD.out.step hbel HRD.out.lt
      have e0 := hrd.cells k hlt
      rw [Nat.zero_add] at e0
      have el := hrd.lt
      rw [chkN_at _ _ _ hlt] at hch
      have hsz := HSZ.out l[k] (List.getElem_mem _)
      have hnm : l[k].size ≤ maxLen := by unfold maxLen; omega
      obtain ⟨en, hen⟩ : ∃ en, en = l[k] := ⟨_, rfl⟩
      rw [← hen] at e0 hch hsz hnm
      have HEN : Hid (en = l[k]) := hen
      have HN0 := fun W : World => shortNameOK_any en W hnm
      have HTK : Hid (l.take (k + 1) = l.take k ++ [en]) := by show _ = _; rw [hen]; exact List.take_succ_eq_append_getElem hlt
      obtain ⟨la, hla⟩ : ∃ la, la = lastN l k := ⟨_, rfl⟩
      rw [← hla] at hch ⊢
      clear hrd hen hla
      cases hsh : shortB en
      · rw [hsh, if_pos rfl] at hch
        rw [hsh] at HN0
        have HC : Hid (nsC l = 11) := hch
        have HN : Hid (∀ W : World, Calls _ _ _ W _) := HN0
        clear hch HN0 hnm M
        go_wp2_with fail
        refine (HN.out _).mono ?_
        rintro e w2 ⟨rfl, rfl⟩
        go_wp2_with fail
        refine bodyPost_ret (v := .tuple #[.agg #[.slice none 0 0, .slice none 0 0, .slice none 0 0, .int .i64 0], .int .i64 11]) (by simp [results, Tryz.results12, go_sem, *]) rfl (NsR.bad HC.out (by decide) ?_)
        (repeat (first | (with_reducible exact Below.refl _ _) | (with_reducible assumption) | (with_reducible apply below_drewN) | (with_reducible apply Below.drew) | ((with_reducible refine Below.setCell ?_ ?_ _); rotate_left; focus (first | (simp; done) | (simp; omega) | omega)) | ((with_reducible refine Below.alloc ?_ ?_ _); rotate_left; focus (first | (simp; done) | (simp; omega) | omega))))
      · rw [hsh, if_neg (by decide)] at hch
        rw [hsh] at HN0
        have HN : Hid (∀ W : World, Calls _ _ _ W _) := HN0
        have HL := leB_not en la
        clear HN0 hnm
        cases hlt0 : ltB la en
        · rw [hlt0] at HL
          rw [hlt0, if_pos rfl] at hch
          have HC : Hid (nsC l = 19) := hch
          clear hch hlt0 M
          go_wp2_with fail
          refine (HN.out _).mono ?_
          rintro e w2 ⟨rfl, rfl⟩
          go_wp2_with fail
          refine bodyPost_ret (v := .tuple #[.agg #[.slice none 0 0, .slice none 0 0, .slice none 0 0, .int .i64 0], .int .i64 19]) (by simp [results, Tryz.results12, go_sem, *]) rfl (NsR.bad HC.out (by decide) ?_)
          (repeat (first | (with_reducible exact Below.refl _ _) | (with_reducible assumption) | (with_reducible apply below_drewN) | (with_reducible apply Below.drew) | ((with_reducible refine Below.setCell ?_ ?_ _); rotate_left; focus (first | (simp; done) | (simp; omega) | omega)) | ((with_reducible refine Below.alloc ?_ ?_ _); rotate_left; focus (first | (simp; done) | (simp; omega) | omega))))
        · rw [hlt0] at HL
          rw [hlt0, if_neg (by decide), HEN.out, ← lastN_succ l k hlt] at hch
          have HCH : Hid _ := hch
          have HOA' : Hid (wr.ownsRow (w.heap.size + 2) 56 3 (.slice pv k cv) k (flatN ns)) := by have h := HO.out; unfold OwnN at h; rw [hnl] at h; exact h
          have HC : Hid (∀ W : World, Calls _ _ _ W _) := fun W => strClone_any en W hsz
          clear hch hlt0 M HO
          go_wp2_with fail
          refine (HN.out _).mono ?_
          rintro e w2 ⟨rfl, rfl⟩
          go_wp2_with fail
          go_region_law (first
            | (refine step_appN rfl (.tmp 37) (.tmp 41) rfl (w.heap.size + 2) k (.slice pv k cv) (flatN ns) (by simp [Act.eval]) (O6.out.alloc _) ⟨w6.heap.size, 0, none⟩ 1 1 (rowN ⟨en, none, 0, none, 0⟩) (by simp [Act.eval]) rfl (three_new _ _ _) (three_one _) (by omega) (by omega) (by simp; omega) ?_; intro v'' w7 o7 g7 at7; have hM7 : Mk2 w w7 (w.heap.size + 1) (.slice pv k cv) (.slice none 0 0) (.slice none 0 0) := (M6.out.next ((Below.refl _ w6).alloc (Nat.le_refl _) (.cells (rowN ⟨en, none, 0, none, 0⟩).toArray 56))).out g7 (fun g h => ⟨by have := (O6.out.lt g h).1; omega, by have := (O6.out.lt g h).1; omega⟩); have M7 : Hid (Mk2 _ _ _ _ _ _) := hM7; obtain ⟨fl, fc0, fc1, fc2, fc3, ff0, ff1, ff2, ff3⟩ := hM7.s.all; obtain ⟨gv, cw, hvv, hgv, hgl⟩ := rowAt o7 (by omega); subst hvv; clear hM7)
            | (go_simp; go_wp2_with (go_at_call 24; refine (HC.out _).mono ?_; rintro e w6 ⟨rfl, hb6⟩; have hB6 : Below w2.heap.size w2 w6 := (show Below w2.heap.size w2 _ by (repeat (first | (with_reducible exact Below.refl _ _) | (with_reducible assumption) | (with_reducible apply below_drewN) | (with_reducible apply Below.drew) | ((with_reducible refine Below.setCell ?_ ?_ _); rotate_left; focus (first | (simp; done) | (simp; omega) | omega)) | ((with_reducible refine Below.alloc ?_ ?_ _); rotate_left; focus (first | (simp; done) | (simp; omega) | omega))))).trans (hb6.mono (by simp)); have O6 : Hid (World.ownsRow _ _ _ _ _ _ _) := owns_below HOA'.out hB6; have M6 : Hid (Mk2 _ _ _ _ _ _) := HM.out.next hB6; obtain ⟨fl, fc0, fc1, fc2, fc3, ff0, ff1, ff2, ff3⟩ := M6.out.s.all; have hz6 := hB6.size; clear hb6 hB6)))
          all_goals
            have HM8 : Hid (Mk2 _ _ _ _ _ _) := M7.out.put (.slice (some ⟨gv, 0, none⟩) (k + 1) cw)
            have HO8 : Hid (OwnN (w7.setCell ⟨w.heap.size + 1, 0, none⟩ (.slice (some ⟨gv, 0, none⟩) (k + 1) cw)) (w.heap.size + 2) (.slice (some ⟨gv, 0, none⟩) (k + 1) cw) (ns ++ [⟨en, none, 0, none, 0⟩])) := by
              have h : OwnN w7 (w.heap.size + 2) (.slice (some ⟨gv, 0, none⟩) (k + 1) cw) (ns ++ [⟨en, none, 0, none, 0⟩]) := by
                unfold OwnN
                rw [flatN_snoc, List.length_append, hnl]
                exact o7
              exact World.ownsRow.kept h grown_set (.inr (fun e => by injection e with e; dsimp only at e; omega))
            have HMP : Hid ((ns ++ [(⟨en, none, 0, none, 0⟩ : NC)]).map NC.n = l.take (k + 1)) := by show _ = _; rw [HTK.out, List.map_append, HNS.out]; rfl
            have hls : en = lastN l (k + 1) := by rw [lastN_succ l k hlt]; exact HEN.out
            clear o7 g7 at7 M7 HNS HTK
            go_wp2_with fail
            go_roundw
            case rel => exact ⟨k + 1, _, _, _, by omega, by go_num, by rw [← hls], HMP.out, HCH.out, HM8.out, HO8.out⟩
            case measure => simp [intOf]; omega
    · obtain rfl : k = l.length := by omega
      have HCC : Hid (nsC l = 0) := by show nsC l = 0; rw [hch, List.drop_length]; rfl
      have hmp : ns.map NC.n = l := by rw [HNS.out, List.take_length]
      have hrb : (Value.slice pv l.length cv).ownBlock = none ∨ (Value.slice pv l.length cv).ownBlock ≠ some w.heap.size := by
        cases hv : (Value.slice pv l.length cv).ownBlock with
        | none => exact .inl rfl
        | some g => exact .inr (fun e => by injection e with e; have := (World.ownsRow.lt HO.out g hv).1; omega)
      have HRB : Hid _ := hrb
      have HMP : Hid _ := hmp
      clear hrb hmp M hrr HM HNS hch
      go_wp2_with fail
      refine bodyPost_ret (v := .tuple #[.agg #[.slice pv l.length cv, .slice none 0 0, .slice none 0 0, .int .i64 0], .int .i64 0]) (by simp [results, Tryz.results12, go_sem, *]) rfl (NsR.good HCC.out HMP.out ?_ ?_)
      · exact owns_mono (World.ownsRow.kept (World.ownsRow.kept (World.ownsRow.kept (World.ownsRow.kept HO.out grown_set HRB.out) grown_set HRB.out) grown_set HRB.out) grown_set HRB.out) (by omega)
      · (repeat (first | (with_reducible exact Below.refl _ _) | (with_reducible assumption) | (with_reducible apply below_drewN) | (with_reducible apply Below.drew) | ((with_reducible refine Below.setCell ?_ ?_ _); rotate_left; focus (first | (simp; done) | (simp; omega) | omega)) | ((with_reducible refine Below.alloc ?_ ?_ _); rotate_left; focus (first | (simp; done) | (simp; omega) | omega))))

end Go.Proofs.YtlefpbgnkebmdaaGreat.Ns
