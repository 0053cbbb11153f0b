/- What the specification's text of a value is, for every right value. -/
import Derived.Test.YtkeghknceccdmaaGreatDoorTextS
import Derived.Test.YtkeghknceccdmaaGreatDoorGetU
import Derived.Maps.AppendAt
import Derived.Deep.RegionLaw
import Derived.Deep.DeepCutAuto
namespace Go.Proofs.YtkeghknceccdmaaGreatDoor
open Go.RowKit
set_option linter.unusedVariables false

def TxtAt (d : Nat) : Prop := ∀ (v : Val) (w : World), fits d v = true →
    Calls Tryz.prog 138 #[.agg #[.int .i64 v.k, .int .i64 v.n, .string v.t]] w fun e w' => e = .returned (.string (mkB (textV d v))) ∧ Below w.heap.size w w'

set_option maxRecDepth 4000 in
set_option maxHeartbeats 1000000 in
theorem txt_base (v : Val) (hb : base v = true) (w : World) :
    Calls Tryz.prog 138 #[.agg #[.int .i64 v.k, .int .i64 v.n, .string v.t]] w fun e w' => e = .returned (.string (mkB (baseT v))) ∧ Below w.heap.size w w' := by
  obtain ⟨k, m, t⟩ := v
  unfold base at hb
  simp only at hb
  split at hb
  · rename_i e; subst e
    show Calls _ _ _ _ fun e w' => e = .returned (.string ⟨#[110, 117, 108, 108]⟩) ∧ Below w.heap.size w w'
    go_enter Tryz.func138, Tryz.ntmps138
    go_wp2_with fail
    go_ret
    exact ⟨rfl, by (repeat (first | (with_reducible exact Below.refl _ _) | (with_reducible assumption) | (with_reducible apply below_drewN) | (with_reducible apply Below.drew) | ((with_reducible refine Below.setCell ?_ ?_ _); rotate_left; focus (first | (simp; done) | (simp; omega) | omega)) | ((with_reducible refine Below.alloc ?_ ?_ _); rotate_left; focus (first | (simp; done) | (simp; omega) | omega))))⟩
  · split at hb
    · rename_i e; subst e
      show Calls _ _ _ _ fun e w' => e = .returned (.string (mkB (boolT (m == 1)))) ∧ Below w.heap.size w w'
      cases hm : (m == 1)
      · show Calls _ _ _ _ fun e w' => e = .returned (.string ⟨#[102, 97, 108, 115, 101]⟩) ∧ Below w.heap.size w w'
        go_enter Tryz.func138, Tryz.ntmps138
        go_wp2_with fail
        go_ret
        exact ⟨rfl, by (repeat (first | (with_reducible exact Below.refl _ _) | (with_reducible assumption) | (with_reducible apply below_drewN) | (with_reducible apply Below.drew) | ((with_reducible refine Below.setCell ?_ ?_ _); rotate_left; focus (first | (simp; done) | (simp; omega) | omega)) | ((with_reducible refine Below.alloc ?_ ?_ _); rotate_left; focus (first | (simp; done) | (simp; omega) | omega))))⟩
      · show Calls _ _ _ _ fun e w' => e = .returned (.string ⟨#[116, 114, 117, 101]⟩) ∧ Below w.heap.size w w'
        go_enter Tryz.func138, Tryz.ntmps138
        go_wp2_with fail
        go_ret
        exact ⟨rfl, by (repeat (first | (with_reducible exact Below.refl _ _) | (with_reducible assumption) | (with_reducible apply below_drewN) | (with_reducible apply Below.drew) | ((with_reducible refine Below.setCell ?_ ?_ _); rotate_left; focus (first | (simp; done) | (simp; omega) | omega)) | ((with_reducible refine Below.alloc ?_ ?_ _); rotate_left; focus (first | (simp; done) | (simp; omega) | omega))))⟩
    · split at hb
      · rename_i e; subst e
        rw [decide_eq_true_eq] at hb
        show Calls _ _ _ _ fun e w' => e = .returned (.string (mkB (Lib.itoa m))) ∧ Below w.heap.size w w'
        obtain ⟨h0, h1, _⟩ := hb
        go_enter Tryz.func138, Tryz.ntmps138
        go_wp2_with (go_at_call 209; refine (digits_int m h0 h1 _).mono ?_; rintro e w1 ⟨rfl, hb⟩)
        go_ret
        exact ⟨rfl, (((Below.refl _ _).alloc (Nat.le_refl _) _).alloc (by simp) _).trans (hb.mono (by simp; omega))⟩
      · split at hb
        · rename_i e; subst e
          rw [decide_eq_true_eq] at hb
          obtain ⟨rfl, hts⟩ := hb
          have e : mkB (baseT ⟨3, 0, t⟩) = (⟨#[39]⟩ : ByteArray) ++ t ++ (⟨#[39]⟩ : ByteArray) := by
            show mkB (39 :: (t.data.toList ++ [39])) = _
            conv => rhs; rw [← mkB_of t]
            rw [show (⟨#[39]⟩ : ByteArray) = mkB [39] from rfl, mkB_app, mkB_app]; rfl
          rw [e]
          have hsz : ((⟨#[39]⟩ : ByteArray) ++ t).size ≤ 301 := by rw [ByteArray.size_append]; show 1 + _ ≤ _; omega
          clear e
          go_enter Tryz.func138, Tryz.ntmps138
          go_wp2_with fail
          go_ret
          exact ⟨rfl, by (repeat (first | (with_reducible exact Below.refl _ _) | (with_reducible assumption) | (with_reducible apply below_drewN) | (with_reducible apply Below.drew) | ((with_reducible refine Below.setCell ?_ ?_ _); rotate_left; focus (first | (simp; done) | (simp; omega) | omega)) | ((with_reducible refine Below.alloc ?_ ?_ _); rotate_left; focus (first | (simp; done) | (simp; omega) | omega))))⟩
        · cases hb

theorem datas_map {α : Type} (f : α → List UInt8) (l : List α) : datas (l.map (fun u => mkB (f u))) = l.map f := by
  unfold datas; rw [List.map_map]; apply List.map_congr_left; intro u _; exact mkB_data _
theorem wrapT (a b : UInt8) (x : List UInt8) : (⟨#[a]⟩ : ByteArray) ++ mkB x ++ (⟨#[b]⟩ : ByteArray) = mkB (a :: (x ++ [b])) := by
  rw [show (⟨#[a]⟩ : ByteArray) = mkB [a] from rfl, show (⟨#[b]⟩ : ByteArray) = mkB [b] from rfl, mkB_app, mkB_app]; rfl

set_option maxRecDepth 4000 in
set_option maxHeartbeats 2000000 in
theorem txtOf_list (d : Nat) (ih : TxtAt d) (m : Int) (t : ByteArray) (w : World) (hf : fits (d + 1) ⟨4, m, t⟩ = true) :
    Calls Tryz.prog 138 #[.agg #[.int .i64 4, .int .i64 m, .string t]] w fun e w' => e = .returned (.string (mkB (91 :: (joinL ((itms ⟨4, m, t⟩).map (textV d)) ++ [93])))) ∧ Below w.heap.size w w' := by
  obtain ⟨hs, hfi, hl, d', hd, hall⟩ := list_parts (d + 1) ⟨4, m, t⟩ hf rfl
  obtain rfl : d = d' := by omega
  have hjl := list_join_len d ⟨4, m, t⟩ hf rfl
  obtain ⟨i0, hi0, hz0, hz1, hz2⟩ := info_parts infoS
  obtain ⟨L, hL⟩ : ∃ L, L = itms ⟨4, m, t⟩ := ⟨_, rfl⟩
  rw [← hL] at hfi hall hl hjl ⊢
  rw [← wrapT]
  have hs' : t.size ≤ 300 := hs
  have hfi' : items t = some L := hfi
  have htl : ∀ u ∈ L, (textV d u).length ≤ 6700 := fun u hu => by have := textV_len d u (hall u hu).1; have := (hall u hu).2; omega
  have HA : Hid _ := hall
  have HF : Hid _ := hfi'
  have HI : Hid (TxtAt _) := ih
  have HJ : Hid _ := hjl
  have HTL : Hid _ := htl
  obtain ⟨M, hM⟩ : ∃ M, M = L.map (fun u => mkB (textV d u)) := ⟨_, rfl⟩
  have hML : M.length = L.length := by rw [hM, List.length_map]
  have hMq : ∀ q (h : q < L.length) (h2 : q < M.length), M[q] = mkB (textV d L[q]) := fun q h h2 => by subst hM; simp
  have HMQ : Hid _ := hMq
  have HM : Hid (_ = _) := hM
  have HML : Hid (_ = _) := hML
  clear hM hML hMq
  have X0 := Boxed.start w (.int .i64 4) (.int .i64 m) (.string t) 28
  have X1 := X0.step ((Below.refl _ _).alloc (Nat.le_refl _) (.cells #[] 9))
  have O1 := World.ownsRow_made (base := w.heap.size) (size := 1) (e := 9) (w.alloc (.cells #[.int .i64 4, .int .i64 m, .string t] 28)) #[] 0 (by simp) (by unfold maxLen; omega) rfl
  clear hall hfi hfi' ih hjl hL hf hs X0 htl
  go_enter Tryz.func138, Tryz.ntmps138
  go_wp2_with fail
  refine (l01Items_any t _ (by omega)).mono ?_
  rintro e w1 ⟨⟨g1, m1, cap1, rfl, hown0⟩, hb⟩
  obtain ⟨rfl, hown1⟩ := hown0 L HF.out
  rw [HF.out]
  have O2 := owns_below O1 hb
  have X2 := X1.step hb
  have hbw := X2.bel
  have R1 := ReadV.of_own hown1
  have hg1 := (hown1.lt g1 rfl).1
  simp only [heap_size_alloc] at O2 hg1
  have HO2 : Hid (World.ownsRow _ _ _ _ _ _ _) := O2
  have HBW : Hid _ := hbw
  have HR1 : Hid _ := R1
  clear hown0 hb X1 X2 O1 hown1 O2 hbw R1
  go_wp2_with fail
  go_loopw [3, 6] (fun u i wr => ∃ q : Nat, q ≤ L.length ∧ i = .int .i64 q ∧ wr.ownsRow w.heap.size 9 1 u q (strs (M.take q)) ∧ (¬ u = .slice none 0 0) ∧ (∀ k, u.ownBlock = some k → k ≠ g1) ∧ ReadV wr g1 L ∧ Below w.heap.size w wr) (fun _ i _ => L.length - (intOf i).toNat)
  case atStart => exact ⟨0, Nat.zero_le _, rfl, HO2.out, by simp, fun k hk => by simp [Value.ownBlock] at hk; omega, HR1.out, HBW.out⟩
  case round =>
    obtain ⟨q, hq, rfl, hown, hnn, hown2, hR, hbel⟩ := hrel
    have HN : Hid _ := hnn
    have HB2 : Hid _ := hown2
    have hz := hbel.size
    clear hnn hown2
    by_cases hlt : q < L.length
    · obtain ⟨x0, x1, x2⟩ := hR.cells q hlt
      have hgl := hR.lt
      have hfq := (HA.out L[q] (List.getElem_mem _)).1
      have HFQ : Hid _ := hfq
      have HRV : Hid _ := hR
      clear hR hfq
      go_wp2_with fail
      refine (HI.out L[q] _ HFQ.out).mono ?_
      rintro e w2 ⟨rfl, hb⟩
      have O3 := owns_below hown hb
      have R3 := HRV.out.next hb
      have hb2 : Below w.heap.size w w2 := hbel.trans (hb.mono hz)
      have hzw := hb2.size
      clear hb hown
      go_wp2_with (at_builtin; refine wpList_append_own_at _ rfl (.tmp 45) (.tmp 51) 152 rfl w.heap.size 9 i0 (.string ByteArray.empty) 1 16 Tryz.underlying152 hi0 hz0 hz1 hz2 rfl (by decide) _ _ _ rfl (O3.alloc _) ⟨w2.heap.size, 0, none⟩ 1 1 [.string (mkB (textV d L[q]))] rfl rfl (cell_one_new _ _ _) (by intro u hu; simp at hu; subst hu; rfl) (by unfold maxLen; omega) (by omega) (by simp; omega) ?_)
      intro v' w3 hown4 hgrow hnv hat
      have R3a : ReadV (w2.alloc (.cells #[.string (mkB (textV d L[q]))] 9)) g1 L := R3.next ((Below.refl _ _).alloc (Nat.le_refl _) _)
      have hne : ∀ k, v'.ownBlock = some k → k ≠ g1 := by
        intro k hk
        rcases hat with e | e
        · exact HB2.out k (e ▸ hk)
        · rw [e] at hk; injection hk with hk; have := R3.lt; omega
      have R4 := R3a.grown hgrow (fun e => HB2.out g1 e.symm rfl)
      have hb4 : Below w.heap.size w w3 := Below.grown (hb2.alloc hzw _) hgrow (by simp; omega) (owns_block O3)
      have hown5 : w3.ownsRow w.heap.size 9 1 v' (q + 1) (strs (M.take (q + 1))) := by
        rw [List.take_succ_eq_append_getElem (by rw [HML.out]; exact hlt), HMQ.out q hlt _, strs_snoc]; exact hown4
      have HO4 : Hid (World.ownsRow _ _ _ _ _ _ _) := hown5
      have HNE : Hid _ := hne
      have HR4 : Hid _ := R4
      have hnv' : ¬ v' = .slice none 0 0 := fun e => hnv e
      have HNV : Hid _ := hnv'
      clear hgrow hat hown4 hown5 hne R4 R3 R3a O3 hnv hnv'
      go_wp2_with fail
      go_roundw
      case rel => exact ⟨q + 1, by omega, by go_num, HO4.out, HNV.out, HNE.out, HR4.out, hb4⟩
      case measure => simp [intOf]; omega
    · have hqM : q = M.length := by rw [HML.out]; omega
      subst hqM
      rw [List.take_length] at hown
      have hML := HML.out
      have hM := HM.out
      obtain ⟨g3, cap3, hv⟩ := owns_shape hown HN.out
      subst hv
      have HRS : Hid _ := readS_own hown
      have hdm : datas M = L.map (textV d) := by rw [hM]; exact datas_map _ _
      have hjm : ∀ k, (joinL (datas (M.take k))).length ≤ 6600 := fun k => by
        rw [datas_take, hdm, ← List.map_take]; exact HJ.out k
      have hsm : ∀ s ∈ M, s.size ≤ 7100 := fun s hs => by
        rw [hM] at hs
        obtain ⟨u, hu, rfl⟩ := List.mem_map.mp hs
        rw [mkB_size]; have := HTL.out u hu; omega
      have HJM : Hid _ := hjm
      have HSM : Hid _ := hsm
      have HDM : Hid (_ = _) := hdm
      have hfin : (joinL (L.map (textV d))).length ≤ 6600 := by have := hjm M.length; rwa [List.take_length, hdm] at this
      have hsz2 : (mkB (joinL (L.map (textV d)))).size ≤ 6600 := by rw [mkB_size]; exact hfin
      have hsz3 : ((⟨#[91]⟩ : ByteArray) ++ mkB (joinL (L.map (textV d)))).size ≤ 6601 := by rw [ByteArray.size_append]; show 1 + _ ≤ _; omega
      have hMl : M.length ≤ 1000 := by omega
      clear hown HN HB2 hM hjm hsm hdm hfin hML
      go_wp2_with fail
      refine (join_any g3 cap3 M _ HRS.out hMl HJM.out HSM.out).mono ?_
      rintro e w2 ⟨rfl, hb⟩
      rw [HDM.out]
      have hb2 : Below w.heap.size w w2 := hbel.trans (hb.mono hz)
      go_wp2_with fail
      go_ret
      exact ⟨rfl, hb2⟩

end Go.Proofs.YtkeghknceccdmaaGreatDoor
