/- What the specification's digits and joined texts are, for every number and list. -/
import Derived.Test.YtkeghknceccdmaaGreatDoorTextMQ
import Derived.Test.YtkeghknceccdmaaGreatDoorOwnQ
import Derived.Test.YtkeghknceccdmaaGreatDoorSplitWQ
import Derived.Deep.RegionWith
import Derived.Test.YtkeghknceccdmaaGreatDoorGetSQ
import Derived.Maps.AppendAt
import Derived.Deep.RegionLaw
import Derived.Deep.DeepCutAuto
namespace Go.Proofs.YtkeghknceccdmaaGreatDoor
open Go.RowKit
set_option linter.unusedVariables false

theorem convC (W : World) (g : Nat) (z : Int) (h : W.cell? ⟨g, 0, none⟩ = some (.int .u8 z)) : (convert 22 9 (.slice (some ⟨g, 0, none⟩) 1 1)).run Tryz.prog W = .ok (.string (txt [z])) W :=
  run_convert_bytes_arg _ 22 5 Tryz.underlying22 Tryz.underlying5 g 0 1 1 [z] rfl (fun i hi => by
    have : i = 0 := by omega
    subst this
    simpa using h) 9 Tryz.underlying9
theorem dig_one (n : Nat) (h : n < 10) : txt [48 + (n : Int)] = mkB [UInt8.ofNat (48 + n)] := by
  have hh : n = 0 ∨ n = 1 ∨ n = 2 ∨ n = 3 ∨ n = 4 ∨ n = 5 ∨ n = 6 ∨ n = 7 ∨ n = 8 ∨ n = 9 := by omega
  rcases hh with rfl | rfl | rfl | rfl | rfl | rfl | rfl | rfl | rfl | rfl <;> rfl
theorem dec_len (n : Nat) (h : n ≤ 10000000000000) : (Lib.decDigits n).length ≤ 21 := by
  have := Lib.itoa_length_le (n : Int) (by omega) (by omega)
  unfold Lib.itoa at this
  rw [if_neg (by omega)] at this
  simpa using this
theorem dec_small (n : Nat) (h : n < 10) : Lib.decDigits n = [UInt8.ofNat (48 + n)] := by rw [Lib.decDigits, dif_pos h]
theorem dec_big (n : Nat) (h : ¬ n < 10) : Lib.decDigits n = Lib.decDigits (n / 10) ++ [UInt8.ofNat (48 + n % 10)] := by rw [Lib.decDigits, dif_neg h]

set_option maxRecDepth 4000 in
set_option maxHeartbeats 1000000 in
theorem digits_nat (n : Nat) : n ≤ 10000000000000 → ∀ w : World, Calls Tryz.prog 209 #[.int .i64 n] w fun e w' => e = .returned (.string (mkB (Lib.decDigits n))) ∧ Below w.heap.size w w' := by
  induction n using Nat.strongRecOn with
  | _ n ih =>
    intro hn w
    have e1 : ((n : Int) == -9223372036854775808) = false := beq_eq_false_iff_ne.mpr (by omega)
    have e2 : ¬ (n : Int) < 0 := by omega
    by_cases h10 : n < 10
    · have e3 : (n : Int) < 10 := by omega
      have hc := conv1 w (48 + (n : Int))
      rw [dec_small n h10, ← dig_one n h10]
      clear ih
      go_enter Tryz.func209, Tryz.ntmps209
      go_wp2_with fail
      go_ret
      exact ⟨rfl, (Below.refl _ _).alloc (Nat.le_refl _) _⟩
    · have e3 : ¬ (n : Int) < 10 := by omega
      have IH := ih (n / 10) (by omega) (by omega)
      have hm : Int.tmod (n : Int) 10 = (n : Int) % 10 := Int.tmod_eq_emod_of_nonneg (by omega)
      have hq : Int.tdiv (n : Int) 10 = (n : Int) / 10 := Int.tdiv_eq_ediv_of_nonneg (by omega)
      have hl := dec_len (n / 10) (by omega)
      have hsz : (mkB (Lib.decDigits (n / 10))).size ≤ 21 := by rw [mkB_size]; exact hl
      have hsz2 : (txt [48 + (n : Int) % 10]).size = 1 := txt_size _
      have hR : mkB (Lib.decDigits n) = mkB (Lib.decDigits (n / 10)) ++ txt [48 + (n : Int) % 10] := by
        rw [dec_big n h10, show (48 : Int) + (n : Int) % 10 = 48 + ((n % 10 : Nat) : Int) by omega, dig_one (n % 10) (by omega), mkB_app]
      rw [hR]
      have IH2 : ∀ W : World, Calls Tryz.prog 209 #[.int .i64 ((n : Int) / 10)] W fun e w' => e = .returned (.string (mkB (Lib.decDigits (n / 10)))) ∧ Below W.heap.size W w' := fun W => by
        have := IH W
        rwa [show ((n / 10 : Nat) : Int) = (n : Int) / 10 by omega] at this
      have HIH : Hid _ := IH2
      have hcg : ∀ (W : World) (g : Nat), W.cell? ⟨g, 0, none⟩ = some (.int .u8 (48 + (n : Int) % 10)) → _ := fun W g h => convC W g (48 + (n : Int) % 10) h
      have hw1 : IntKind.i64.wrap ((n : Int) / 10) = (n : Int) / 10 := by rw [IntKind.wrap_i64]; omega
      have hw2 : IntKind.i64.wrap (48 + (n : Int) % 10) = 48 + (n : Int) % 10 := by rw [IntKind.wrap_i64]; omega
      have hw3 : IntKind.u8.wrap (48 + (n : Int) % 10) = 48 + (n : Int) % 10 := by simp only [IntKind.wrap, IntKind.bits, IntKind.signed]; simp; omega
      clear ih IH IH2 hl hR
      go_enter Tryz.func209, Tryz.ntmps209
      go_wp2_with fail
      go_region_with (go_at_call 209; refine (HIH.out _).mono ?_; rintro e w1 ⟨rfl, hb⟩; obtain ⟨hcc, hff⟩ := bcell hb; have hz := hb.size; simp at hz)
      all_goals
        have hbw : Below w.heap.size w w1 := by first | exact (Below.refl _ _).drew.trans (hb.mono (by simp)) | exact ((Below.refl _ _).alloc (Nat.le_refl _) _).drew.trans (hb.mono (by simp))
        have hzz := hbw.size
        go_wp2_with fail
        go_ret
        exact ⟨rfl, by (repeat (first | (with_reducible exact Below.refl _ _) | (with_reducible assumption) | (with_reducible apply below_drewN) | (with_reducible apply Below.drew) | ((with_reducible refine Below.setCell ?_ ?_ _); rotate_left; focus (first | (simp; done) | (simp; omega) | omega)) | ((with_reducible refine Below.alloc ?_ ?_ _); rotate_left; focus (first | (simp; done) | (simp; omega) | omega))))⟩
set_option maxRecDepth 4000 in
set_option maxHeartbeats 1000000 in
theorem digits_int (z : Int) (h0 : -1000000000000 ≤ z) (h1 : z ≤ 1000000000000) (w : World) : Calls Tryz.prog 209 #[.int .i64 z] w fun e w' => e = .returned (.string (mkB (Lib.itoa z))) ∧ Below w.heap.size w w' := by
  by_cases hneg : z < 0
  · have e1 : (z == -9223372036854775808) = false := beq_eq_false_iff_ne.mpr (by omega)
    obtain ⟨m, rfl⟩ : ∃ m : Nat, z = -(m : Int) := ⟨z.natAbs, by omega⟩
    have hl := dec_len m (by omega)
    have hsz : (mkB (Lib.decDigits m)).size ≤ 21 := by rw [mkB_size]; exact hl
    have hR : mkB (Lib.itoa (-(m : Int))) = (⟨#[45]⟩ : ByteArray) ++ mkB (Lib.decDigits m) := by
      unfold Lib.itoa
      rw [if_pos hneg, show (-(m : Int)).natAbs = m by omega]
      exact (mkB_app [45] (Lib.decDigits m)).symm
    rw [hR]
    have HD : Hid _ := digits_nat m (by omega)
    clear hR hl
    go_enter Tryz.func209, Tryz.ntmps209
    go_wp2_with (go_at_call 209; refine (HD.out _).mono ?_; rintro e w1 ⟨rfl, hb⟩)
    go_ret
    exact ⟨rfl, hb⟩
  · obtain ⟨m, rfl⟩ : ∃ m : Nat, z = (m : Int) := ⟨z.toNat, by omega⟩
    have e : Lib.itoa (m : Int) = Lib.decDigits m := by unfold Lib.itoa; rw [if_neg hneg]; simp
    rw [e]
    exact digits_nat m (by omega) w

/-- The bytes of texts. -/
def datas (l : List ByteArray) : List (List UInt8) := l.map (fun s => s.data.toList)
theorem datas_take (l : List ByteArray) (k : Nat) : datas (l.take k) = (datas l).take k := by unfold datas; rw [List.map_take]
set_option maxRecDepth 4000 in
set_option maxHeartbeats 1000000 in
theorem join_any (g cap : Nat) (l : List ByteArray) (w : World) (hr : ReadS w g 0 l) (hl : l.length ≤ 1000) (hj : ∀ k, (joinL (datas (l.take k))).length ≤ 6600) (hs : ∀ s ∈ l, s.size ≤ 7100) :
    Calls Tryz.prog 139 #[.slice (some ⟨g, 0, none⟩) l.length cap, .string ⟨#[44]⟩] w fun e w' => e = .returned (.string (mkB (joinL (datas l)))) ∧ Below w.heap.size w w' := by
  have HR : Hid _ := hr
  have HJ : Hid _ := hj
  have HS : Hid _ := hs
  clear hr hj hs
  go_enter Tryz.func139, Tryz.ntmps139
  go_wp2_with fail
  go_loopw [5, 6] (fun u i wr => ∃ q : Nat, q ≤ l.length ∧ i = .int .i64 q ∧ u = .string (mkB (joinL (datas (l.take q)))) ∧ Below w.heap.size w wr) (fun _ i _ => l.length - (intOf i).toNat)
  case atStart => exact ⟨0, Nat.zero_le _, rfl, rfl, Below.refl _ _⟩
  case round =>
    obtain ⟨q, hq, rfl, rfl, hbel⟩ := hrel
    have hjq := HJ.out q
    have hsz : (mkB (joinL (datas (l.take q)))).size ≤ 6600 := by rw [mkB_size]; exact hjq
    clear hjq
    by_cases hlt : q < l.length
    · have x0 := (HR.out.next hbel).cells q hlt
      rw [Nat.zero_add] at x0
      have hsq := HS.out l[q] (List.getElem_mem _)
      have hmk : mkB l[q].data.toList = l[q] := mkB_of _
      by_cases hq0 : q = 0
      · subst hq0
        have hnq : ¬ (0 : Int) < 0 := by omega
        have hcat : mkB (joinL (datas (l.take (0 + 1)))) = mkB (joinL (datas (l.take 0))) ++ l[0] := by
          unfold datas
          rw [Nat.zero_add, joinL_take0 _ _ hlt, hmk]
          apply ba_ext
          simp [joinL, mkB]
        obtain ⟨A, hA⟩ : ∃ A, A = mkB (joinL (datas (l.take 0))) := ⟨_, rfl⟩
        rw [← hA] at hcat hsz ⊢
        have HC : Hid (_ = _) := hcat
        clear hcat hmk hA
        go_wp2_with fail
        go_roundw
        case rel => exact ⟨0 + 1, by omega, by go_num, by rw [HC.out], hbel⟩
        case measure => simp [intOf]; omega
      · have hq1 : 0 < q := by omega
        have hcat : mkB (joinL (datas (l.take (q + 1)))) = mkB (joinL (datas (l.take q))) ++ (⟨#[44]⟩ : ByteArray) ++ l[q] := by
          unfold datas
          rw [joinL_take _ _ _ hlt hq1]
          conv => rhs; rw [← hmk]
          rw [show (⟨#[44]⟩ : ByteArray) = mkB [44] from rfl, mkB_app, mkB_app, List.append_assoc]
          rfl
        have hsz3 : (mkB (joinL (datas (l.take q))) ++ (⟨#[44]⟩ : ByteArray)).size ≤ 6601 := by
          rw [ByteArray.size_append]; show _ + 1 ≤ _; omega
        have HC : Hid (_ = _) := hcat
        clear hcat hmk hq0
        go_wp2_with fail
        go_roundw
        case rel => exact ⟨q + 1, by omega, by go_num, by rw [HC.out], hbel⟩
        case measure => simp [intOf]; omega
    · have e : l.take q = l := List.take_of_length_le (by omega)
      rw [e]
      go_wp2_with fail
      go_ret
      exact ⟨rfl, hbel⟩

end Go.Proofs.YtkeghknceccdmaaGreatDoor

/- What the specification's text of a value is, for every right value. -/
namespace Go.Proofs.YtkeghknceccdmaaGreatDoor
open Go.RowKit
set_option linter.unusedVariables false

def TxtAt (d : Nat) : Prop := ∀ (v : Val) (w : World), fits d v = true →
    Calls Tryz.prog 138 #[.agg #[.int .i64 v.k, .int .i64 v.n, .string v.t]] w fun e w' => e = .returned (.string (mkB (textV d v))) ∧ Below w.heap.size w w'

set_option maxRecDepth 4000 in
set_option maxHeartbeats 1000000 in
theorem txt_base (v : Val) (hb : base v = true) (w : World) :
    Calls Tryz.prog 138 #[.agg #[.int .i64 v.k, .int .i64 v.n, .string v.t]] w fun e w' => e = .returned (.string (mkB (baseT v))) ∧ Below w.heap.size w w' := by
  obtain ⟨k, m, t⟩ := v
  unfold base at hb
  simp only at hb
  split at hb
  · rename_i e; subst e
    show Calls _ _ _ _ fun e w' => e = .returned (.string ⟨#[110, 117, 108, 108]⟩) ∧ Below w.heap.size w w'
    go_enter Tryz.func138, Tryz.ntmps138
    go_wp2_with fail
    go_ret
    exact ⟨rfl, by (repeat (first | (with_reducible exact Below.refl _ _) | (with_reducible assumption) | (with_reducible apply below_drewN) | (with_reducible apply Below.drew) | ((with_reducible refine Below.setCell ?_ ?_ _); rotate_left; focus (first | (simp; done) | (simp; omega) | omega)) | ((with_reducible refine Below.alloc ?_ ?_ _); rotate_left; focus (first | (simp; done) | (simp; omega) | omega))))⟩
  · split at hb
    · rename_i e; subst e
      show Calls _ _ _ _ fun e w' => e = .returned (.string (mkB (boolT (m == 1)))) ∧ Below w.heap.size w w'
      cases hm : (m == 1)
      · show Calls _ _ _ _ fun e w' => e = .returned (.string ⟨#[102, 97, 108, 115, 101]⟩) ∧ Below w.heap.size w w'
        go_enter Tryz.func138, Tryz.ntmps138
        go_wp2_with fail
        go_ret
        exact ⟨rfl, by (repeat (first | (with_reducible exact Below.refl _ _) | (with_reducible assumption) | (with_reducible apply below_drewN) | (with_reducible apply Below.drew) | ((with_reducible refine Below.setCell ?_ ?_ _); rotate_left; focus (first | (simp; done) | (simp; omega) | omega)) | ((with_reducible refine Below.alloc ?_ ?_ _); rotate_left; focus (first | (simp; done) | (simp; omega) | omega))))⟩
      · show Calls _ _ _ _ fun e w' => e = .returned (.string ⟨#[116, 114, 117, 101]⟩) ∧ Below w.heap.size w w'
        go_enter Tryz.func138, Tryz.ntmps138
        go_wp2_with fail
        go_ret
        exact ⟨rfl, by (repeat (first | (with_reducible exact Below.refl _ _) | (with_reducible assumption) | (with_reducible apply below_drewN) | (with_reducible apply Below.drew) | ((with_reducible refine Below.setCell ?_ ?_ _); rotate_left; focus (first | (simp; done) | (simp; omega) | omega)) | ((with_reducible refine Below.alloc ?_ ?_ _); rotate_left; focus (first | (simp; done) | (simp; omega) | omega))))⟩
    · split at hb
      · rename_i e; subst e
        rw [decide_eq_true_eq] at hb
        show Calls _ _ _ _ fun e w' => e = .returned (.string (mkB (Lib.itoa m))) ∧ Below w.heap.size w w'
        obtain ⟨h0, h1, _⟩ := hb
        go_enter Tryz.func138, Tryz.ntmps138
        go_wp2_with (go_at_call 209; refine (digits_int m h0 h1 _).mono ?_; rintro e w1 ⟨rfl, hb⟩)
        go_ret
        exact ⟨rfl, (((Below.refl _ _).alloc (Nat.le_refl _) _).alloc (by simp) _).trans (hb.mono (by simp; omega))⟩
      · split at hb
        · rename_i e; subst e
          rw [decide_eq_true_eq] at hb
          obtain ⟨rfl, hts⟩ := hb
          have e : mkB (baseT ⟨3, 0, t⟩) = (⟨#[39]⟩ : ByteArray) ++ t ++ (⟨#[39]⟩ : ByteArray) := by
            show mkB (39 :: (t.data.toList ++ [39])) = _
            conv => rhs; rw [← mkB_of t]
            rw [show (⟨#[39]⟩ : ByteArray) = mkB [39] from rfl, mkB_app, mkB_app]; rfl
          rw [e]
          have hsz : ((⟨#[39]⟩ : ByteArray) ++ t).size ≤ 301 := by rw [ByteArray.size_append]; show 1 + _ ≤ _; omega
          clear e
          go_enter Tryz.func138, Tryz.ntmps138
          go_wp2_with fail
          go_ret
          exact ⟨rfl, by (repeat (first | (with_reducible exact Below.refl _ _) | (with_reducible assumption) | (with_reducible apply below_drewN) | (with_reducible apply Below.drew) | ((with_reducible refine Below.setCell ?_ ?_ _); rotate_left; focus (first | (simp; done) | (simp; omega) | omega)) | ((with_reducible refine Below.alloc ?_ ?_ _); rotate_left; focus (first | (simp; done) | (simp; omega) | omega))))⟩
        · cases hb

theorem datas_map {α : Type} (f : α → List UInt8) (l : List α) : datas (l.map (fun u => mkB (f u))) = l.map f := by
  unfold datas; rw [List.map_map]; apply List.map_congr_left; intro u _; exact mkB_data _
theorem wrapT (a b : UInt8) (x : List UInt8) : (⟨#[a]⟩ : ByteArray) ++ mkB x ++ (⟨#[b]⟩ : ByteArray) = mkB (a :: (x ++ [b])) := by
  rw [show (⟨#[a]⟩ : ByteArray) = mkB [a] from rfl, show (⟨#[b]⟩ : ByteArray) = mkB [b] from rfl, mkB_app, mkB_app]; rfl

set_option maxRecDepth 4000 in
set_option maxHeartbeats 2000000 in
theorem txtOf_list (d : Nat) (ih : TxtAt d) (m : Int) (t : ByteArray) (w : World) (hf : fits (d + 1) ⟨4, m, t⟩ = true) :
    Calls Tryz.prog 138 #[.agg #[.int .i64 4, .int .i64 m, .string t]] w fun e w' => e = .returned (.string (mkB (91 :: (joinL ((itms ⟨4, m, t⟩).map (textV d)) ++ [93])))) ∧ Below w.heap.size w w' := by
  obtain ⟨hs, hfi, hl, d', hd, hall⟩ := list_parts (d + 1) ⟨4, m, t⟩ hf rfl
  obtain rfl : d = d' := by omega
  have hjl := list_join_len d ⟨4, m, t⟩ hf rfl
  obtain ⟨i0, hi0, hz0, hz1, hz2⟩ := info_parts infoS
  obtain ⟨L, hL⟩ : ∃ L, L = itms ⟨4, m, t⟩ := ⟨_, rfl⟩
  rw [← hL] at hfi hall hl hjl ⊢
  rw [← wrapT]
  have hs' : t.size ≤ 300 := hs
  have hfi' : items t = some L := hfi
  have htl : ∀ u ∈ L, (textV d u).length ≤ 6700 := fun u hu => by have := textV_len d u (hall u hu).1; have := (hall u hu).2; omega
  have HA : Hid _ := hall
  have HF : Hid _ := hfi'
  have HI : Hid (TxtAt _) := ih
  have HJ : Hid _ := hjl
  have HTL : Hid _ := htl
  obtain ⟨M, hM⟩ : ∃ M, M = L.map (fun u => mkB (textV d u)) := ⟨_, rfl⟩
  have hML : M.length = L.length := by rw [hM, List.length_map]
  have hMq : ∀ q (h : q < L.length) (h2 : q < M.length), M[q] = mkB (textV d L[q]) := fun q h h2 => by subst hM; simp
  have HMQ : Hid _ := hMq
  have HM : Hid (_ = _) := hM
  have HML : Hid (_ = _) := hML
  clear hM hML hMq
  have X0 := Boxed.start w (.int .i64 4) (.int .i64 m) (.string t) 28
  have X1 := X0.step ((Below.refl _ _).alloc (Nat.le_refl _) (.cells #[] 9))
  have O1 := World.ownsRow_made (base := w.heap.size) (size := 1) (e := 9) (w.alloc (.cells #[.int .i64 4, .int .i64 m, .string t] 28)) #[] 0 (by simp) (by unfold maxLen; omega) rfl
  clear hall hfi hfi' ih hjl hL hf hs X0 htl
  go_enter Tryz.func138, Tryz.ntmps138
  go_wp2_with fail
  refine (l01Items_any t _ (by omega)).mono ?_
  rintro e w1 ⟨⟨g1, m1, cap1, rfl, hown0⟩, hb⟩
  obtain ⟨rfl, hown1⟩ := hown0 L HF.out
  rw [HF.out]
  have O2 := owns_below O1 hb
  have X2 := X1.step hb
  have hbw := X2.bel
  have R1 := ReadV.of_own hown1
  have hg1 := (hown1.lt g1 rfl).1
  simp only [heap_size_alloc] at O2 hg1
  have HO2 : Hid (World.ownsRow _ _ _ _ _ _ _) := O2
  have HBW : Hid _ := hbw
  have HR1 : Hid _ := R1
  clear hown0 hb X1 X2 O1 hown1 O2 hbw R1
  go_wp2_with fail
  go_loopw [3, 6] (fun u i wr => ∃ q : Nat, q ≤ L.length ∧ i = .int .i64 q ∧ wr.ownsRow w.heap.size 9 1 u q (strs (M.take q)) ∧ (¬ u = .slice none 0 0) ∧ (∀ k, u.ownBlock = some k → k ≠ g1) ∧ ReadV wr g1 L ∧ Below w.heap.size w wr) (fun _ i _ => L.length - (intOf i).toNat)
  case atStart => exact ⟨0, Nat.zero_le _, rfl, HO2.out, by simp, fun k hk => by simp [Value.ownBlock] at hk; omega, HR1.out, HBW.out⟩
  case round =>
    obtain ⟨q, hq, rfl, hown, hnn, hown2, hR, hbel⟩ := hrel
    have HN : Hid _ := hnn
    have HB2 : Hid _ := hown2
    have hz := hbel.size
    clear hnn hown2
    by_cases hlt : q < L.length
    · obtain ⟨x0, x1, x2⟩ := hR.cells q hlt
      have hgl := hR.lt
      have hfq := (HA.out L[q] (List.getElem_mem _)).1
      have HFQ : Hid _ := hfq
      have HRV : Hid _ := hR
      clear hR hfq
      go_wp2_with fail
      refine (HI.out L[q] _ HFQ.out).mono ?_
      rintro e w2 ⟨rfl, hb⟩
      have O3 := owns_below hown hb
      have R3 := HRV.out.next hb
      have hb2 : Below w.heap.size w w2 := hbel.trans (hb.mono hz)
      have hzw := hb2.size
      clear hb hown
      go_wp2_with (at_builtin; refine wpList_append_own_at _ rfl (.tmp 45) (.tmp 51) 152 rfl w.heap.size 9 i0 (.string ByteArray.empty) 1 16 Tryz.underlying152 hi0 hz0 hz1 hz2 rfl (by decide) _ _ _ rfl (O3.alloc _) ⟨w2.heap.size, 0, none⟩ 1 1 [.string (mkB (textV d L[q]))] rfl rfl (cell_one_new _ _ _) (by intro u hu; simp at hu; subst hu; rfl) (by unfold maxLen; omega) (by omega) (by simp; omega) ?_)
      intro v' w3 hown4 hgrow hnv hat
      have R3a : ReadV (w2.alloc (.cells #[.string (mkB (textV d L[q]))] 9)) g1 L := R3.next ((Below.refl _ _).alloc (Nat.le_refl _) _)
      have hne : ∀ k, v'.ownBlock = some k → k ≠ g1 := by
        intro k hk
        rcases hat with e | e
        · exact HB2.out k (e ▸ hk)
        · rw [e] at hk; injection hk with hk; have := R3.lt; omega
      have R4 := R3a.grown hgrow (fun e => HB2.out g1 e.symm rfl)
      have hb4 : Below w.heap.size w w3 := Below.grown (hb2.alloc hzw _) hgrow (by simp; omega) (owns_block O3)
      have hown5 : w3.ownsRow w.heap.size 9 1 v' (q + 1) (strs (M.take (q + 1))) := by
        rw [List.take_succ_eq_append_getElem (by rw [HML.out]; exact hlt), HMQ.out q hlt _, strs_snoc]; exact hown4
      have HO4 : Hid (World.ownsRow _ _ _ _ _ _ _) := hown5
      have HNE : Hid _ := hne
      have HR4 : Hid _ := R4
      have hnv' : ¬ v' = .slice none 0 0 := fun e => hnv e
      have HNV : Hid _ := hnv'
      clear hgrow hat hown4 hown5 hne R4 R3 R3a O3 hnv hnv'
      go_wp2_with fail
      go_roundw
      case rel => exact ⟨q + 1, by omega, by go_num, HO4.out, HNV.out, HNE.out, HR4.out, hb4⟩
      case measure => simp [intOf]; omega
    · have hqM : q = M.length := by rw [HML.out]; omega
      subst hqM
      rw [List.take_length] at hown
      have hML := HML.out
      have hM := HM.out
      obtain ⟨g3, cap3, hv⟩ := owns_shape hown HN.out
      subst hv
      have HRS : Hid _ := readS_own hown
      have hdm : datas M = L.map (textV d) := by rw [hM]; exact datas_map _ _
      have hjm : ∀ k, (joinL (datas (M.take k))).length ≤ 6600 := fun k => by
        rw [datas_take, hdm, ← List.map_take]; exact HJ.out k
      have hsm : ∀ s ∈ M, s.size ≤ 7100 := fun s hs => by
        rw [hM] at hs
        obtain ⟨u, hu, rfl⟩ := List.mem_map.mp hs
        rw [mkB_size]; have := HTL.out u hu; omega
      have HJM : Hid _ := hjm
      have HSM : Hid _ := hsm
      have HDM : Hid (_ = _) := hdm
      have hfin : (joinL (L.map (textV d))).length ≤ 6600 := by have := hjm M.length; rwa [List.take_length, hdm] at this
      have hsz2 : (mkB (joinL (L.map (textV d)))).size ≤ 6600 := by rw [mkB_size]; exact hfin
      have hsz3 : ((⟨#[91]⟩ : ByteArray) ++ mkB (joinL (L.map (textV d)))).size ≤ 6601 := by rw [ByteArray.size_append]; show 1 + _ ≤ _; omega
      have hMl : M.length ≤ 1000 := by omega
      clear hown HN HB2 hM hjm hsm hdm hfin hML
      go_wp2_with fail
      refine (join_any g3 cap3 M _ HRS.out hMl HJM.out HSM.out).mono ?_
      rintro e w2 ⟨rfl, hb⟩
      rw [HDM.out]
      have hb2 : Below w.heap.size w w2 := hbel.trans (hb.mono hz)
      go_wp2_with fail
      go_ret
      exact ⟨rfl, hb2⟩

end Go.Proofs.YtkeghknceccdmaaGreatDoor

/- What the specification's text of a document is; and of every right value. -/
namespace Go.Proofs.YtkeghknceccdmaaGreatDoor
open Go.RowKit
set_option linter.unusedVariables false

theorem ReadF.grown {w w' : World} {g : Nat} {l : List Fld} {row : Option Nat} (h : ReadF w g l) (hg : w.grownBy w' row) (hne : some g ≠ row) : ReadF w' g l :=
  ⟨Nat.lt_of_lt_of_le h.lt hg.size, fun i hi => ⟨(World.cell?_of_block (hg.block g h.lt hne)).trans (h.cells i hi).1, (World.cell?_of_block (hg.block g h.lt hne)).trans (h.cells i hi).2.1, (World.cell?_of_block (hg.block g h.lt hne)).trans (h.cells i hi).2.2.1, (World.cell?_of_block (hg.block g h.lt hne)).trans (h.cells i hi).2.2.2⟩⟩
/-- One text behind a row of texts of the call's own, as a step of a region of open order. -/
theorem step_text {ops : Array Oper} {o : Oper} {a : Act} {w : World} {K : Act → World → Prop} {Q : Exit → Act → World → Prop} {E : Prop} (hgd : o.guard = none) (s x : Operand)
    (ho : o.op = .call { callee := .builtin .append, args := #[s, x], argTypes := #[152, 152] }) (base n : Nat) (v : Value) (xs : List Value) (t : ByteArray) (ad : Nat)
    (hs : a.eval s = v) (hx : a.eval x = .slice (some ⟨ad, 0, none⟩) 1 1) (hc : w.cell? ⟨ad, 0, none⟩ = some (.string t)) (hown : w.ownsRow base 9 1 v n xs) (hn : n ≤ 1000000) (hbase : base ≤ w.heap.size)
    (hK : ∀ v' w', w'.ownsRow base 9 1 v' (n + 1) (xs ++ [.string t]) → w.grownBy w' v.ownBlock → (¬ v' = .slice none 0 0) → (v'.ownBlock = v.ownBlock ∨ v'.ownBlock = some w.heap.size) → K (a.put o.dst v') w') :
    if Region.wanted o (yielded ops a.tmps) = true then Oper.wp Tryz.prog o a w K Q else E := by
  have hw : Region.wanted o (yielded ops a.tmps) = true := by simp [Region.wanted, hgd]
  rw [if_pos hw]
  obtain ⟨i0, hi, hz0, hz1, hz2⟩ := info_parts infoS
  obtain ⟨v', w', hr, h2, h3, h4, h5⟩ := run_append_own_at (P := Tryz.prog) w base 152 o.type 9 i0 (.string ByteArray.empty) 1 16 Tryz.underlying152 hi hz0 hz1 hz2 rfl (by decide) v n xs hown ⟨ad, 0, none⟩ 1 1 [.string t] rfl (fun j u hj => by
    match j, hj with
    | 0, hj => simp at hj; subst hj; rw [addr0]; exact hc
    | j + 1, hj => simp at hj) (by intro u hu; simp at hu; subst hu; rfl) (by unfold maxLen; omega) (by omega) hbase
  unfold Oper.wp execOp
  simp only [ho, resolve, invoke, builtin, Sem.run_bind, Sem.run_pure, Result.andThen_ok, List.map_toArray, List.map_cons, List.map_nil, hs, hx, hr]
  exact hK _ _ h2 h3 (fun e => by have := (h4.mp e).2; simp at this) h5

set_option maxRecDepth 4000 in
set_option maxHeartbeats 2000000 in
theorem txtOf_doc (d : Nat) (ih : TxtAt d) (m : Int) (t : ByteArray) (w : World) (hf : fits (d + 1) ⟨5, m, t⟩ = true) :
    Calls Tryz.prog 138 #[.agg #[.int .i64 5, .int .i64 m, .string t]] w fun e w' => e = .returned (.string (mkB (123 :: (joinL ((flds ⟨5, m, t⟩).map (fieldT (textV d))) ++ [125])))) ∧ Below w.heap.size w w' := by
  obtain ⟨hs, hfi, hl, _, d', hd, hall, _⟩ := doc_parts (d + 1) ⟨5, m, t⟩ hf rfl
  obtain rfl : d = d' := by omega
  have hjl := doc_join_len d ⟨5, m, t⟩ hf rfl
  obtain ⟨L, hL⟩ : ∃ L, L = flds ⟨5, m, t⟩ := ⟨_, rfl⟩
  rw [← hL] at hfi hall hl hjl ⊢
  rw [← wrapT]
  have hs' : t.size ≤ 300 := hs
  have hfi' : fields t = some L := hfi
  have htl0 : ∀ u ∈ L, (textV d u.v).length ≤ 6700 := fun u hu => by have := textV_len d u.v (hall u hu).1; have := (hall u hu).2.1; omega
  have htl : ∀ u ∈ L, (fieldT (textV d) u).length ≤ 7100 := fun u hu => by
    have h1 := htl0 u hu
    have h2 := (hall u hu).2.2
    have h3 := toList_length u.name
    unfold fieldT; rw [List.length_append, List.length_cons]; omega
  have hfr := hall
  have HA : Hid _ := hall
  have HF : Hid _ := hfi'
  have HI : Hid (TxtAt _) := ih
  have HJ : Hid _ := hjl
  have HTL : Hid _ := htl
  have HTL0 : Hid _ := htl0
  obtain ⟨M, hM⟩ : ∃ M, M = L.map (fun u => mkB (fieldT (textV d) u)) := ⟨_, rfl⟩
  have hML : M.length = L.length := by rw [hM, List.length_map]
  have hMq : ∀ q (h : q < L.length) (h2 : q < M.length), M[q] = L[q].name ++ (⟨#[58]⟩ : ByteArray) ++ mkB (textV d L[q].v) := fun q h h2 => by
    subst hM
    simp only [List.getElem_map]
    conv => rhs; rw [← mkB_of L[q].name]
    rw [show (⟨#[58]⟩ : ByteArray) = mkB [58] from rfl, mkB_app, mkB_app, List.append_assoc]
    rfl
  have HMQ : Hid _ := hMq
  have HM : Hid (_ = _) := hM
  have HML : Hid (_ = _) := hML
  clear hM hML hMq hfr htl0
  have X0 := Boxed.start w (.int .i64 5) (.int .i64 m) (.string t) 28
  have X1 := X0.step ((Below.refl _ _).alloc (Nat.le_refl _) (.cells #[] 9))
  have O1 := World.ownsRow_made (base := w.heap.size) (size := 1) (e := 9) (w.alloc (.cells #[.int .i64 5, .int .i64 m, .string t] 28)) #[] 0 (by simp) (by unfold maxLen; omega) rfl
  clear hall hfi hfi' ih hjl hL hf hs X0 htl
  go_enter Tryz.func138, Tryz.ntmps138
  go_wp2_with fail
  refine (l01Fields_any t _ (by omega)).mono ?_
  rintro e w1 ⟨⟨g1, m1, cap1, rfl, hown0⟩, hb⟩
  obtain ⟨rfl, hown1⟩ := hown0 L HF.out
  rw [HF.out]
  have O2 := owns_below O1 hb
  have X2 := X1.step hb
  have hbw := X2.bel
  have R1 := ReadF.of_own hown1
  have hg1 := (hown1.lt g1 rfl).1
  simp only [heap_size_alloc] at O2 hg1
  have HO2 : Hid (World.ownsRow _ _ _ _ _ _ _) := O2
  have HBW : Hid _ := hbw
  have HR1 : Hid _ := R1
  clear hown0 hb X1 X2 O1 hown1 O2 hbw R1
  go_wp2_with fail
  go_loopw [3, 9] (fun u i wr => ∃ q : Nat, q ≤ L.length ∧ i = .int .i64 q ∧ wr.ownsRow w.heap.size 9 1 u q (strs (M.take q)) ∧ (¬ u = .slice none 0 0) ∧ (∀ k, u.ownBlock = some k → k ≠ g1) ∧ ReadF wr g1 L ∧ Below w.heap.size w wr) (fun _ i _ => L.length - (intOf i).toNat)
  case atStart => exact ⟨0, Nat.zero_le _, rfl, HO2.out, by simp, fun k hk => by simp [Value.ownBlock] at hk; omega, HR1.out, HBW.out⟩
  case round =>
    obtain ⟨q, hq, rfl, hown, hnn, hown2, hR, hbel⟩ := hrel
    have HN : Hid _ := hnn
    have HB2 : Hid _ := hown2
    have hz := hbel.size
    clear hnn hown2
    by_cases hlt : q < L.length
    · obtain ⟨x0, x1, x2, x3⟩ := hR.cells q hlt
      have hgl := hR.lt
      have hfq := HA.out L[q] (List.getElem_mem _)
      have HFQ : Hid _ := hfq.1
      have hnm := hfq.2.2
      have htq := HTL0.out L[q] (List.getElem_mem _)
      have hsz1 : (mkB (textV d L[q].v)).size ≤ 6700 := by rw [mkB_size]; exact htq
      have hsz2 : (L[q].name ++ (⟨#[58]⟩ : ByteArray)).size ≤ 301 := by rw [ByteArray.size_append]; show _ + 1 ≤ _; omega
      have hcon1 : ¬ 9223372036854775807 < L[q].name.size + 1 := by omega
      have hcon2 : ¬ 9223372036854775807 < (L[q].name ++ (⟨#[58]⟩ : ByteArray)).size + (mkB (textV d L[q].v)).size := by omega
      have hcon3 : ¬ 9223372036854775807 < L[q].name.size + 1 + (mkB (textV d L[q].v)).size := by omega
      have HRV : Hid _ := hR
      have hk1 : (q : Int) < (L.length : Int) := by omega
      have HOW : Hid (World.ownsRow _ _ _ _ _ _ _) := hown
      have hmq := HMQ.out q hlt (by rw [HML.out]; exact hlt)
      have htk : M.take (q + 1) = M.take q ++ [L[q].name ++ (⟨#[58]⟩ : ByteArray) ++ mkB (textV d L[q].v)] := by rw [List.take_succ_eq_append_getElem (by rw [HML.out]; exact hlt), hmq]
      have HTK : Hid (_ = _) := htk
      clear hR hfq htq hown hmq htk
      go_wp2_with fail
      go_region_law (first
          | (refine step_text rfl (.tmp 69) (.tmp 83) rfl w.heap.size q u3 (strs (M.take q)) (L[q].name ++ (⟨#[58]⟩ : ByteArray) ++ mkB (textV d L[q].v)) w2.heap.size (by simp [Act.eval]) (by simp [Act.eval]) (by simp [go_sem]) ((owns_below (w := wr.drew) HOW.out hb).alloc _) (by omega) (by simp; omega) ?_; intro v' w3 hown4 hgrow hnv hat)
          | (go_simp; go_wp2_with (go_at_call 138; refine (HI.out L[q].v _ HFQ.out).mono ?_; rintro e w2 ⟨rfl, hb⟩; have y0 : w2.cell? ⟨g1, q * 4, none⟩ = some (.string L[q].name) := (hb.cell (p := ⟨g1, q * 4, none⟩) hgl).trans x0; have hzb := hb.size; simp at hzb)))
      all_goals
        have hb2 : Below w.heap.size w w2 := hbel.trans ((show Below wr.heap.size wr w2 from (Below.refl _ _).drew.trans (hb.mono (by simp))).mono hz)
        have hzw := hb2.size
        have R3 : ReadF (w2.alloc (.cells #[.string (L[q].name ++ (⟨#[58]⟩ : ByteArray) ++ mkB (textV d L[q].v))] 9)) g1 L := (HRV.out.next (show Below wr.heap.size wr w2 from (Below.refl _ _).drew.trans (hb.mono (by simp)))).next ((Below.refl _ _).alloc (Nat.le_refl _) _)
        have hne : ∀ k, v'.ownBlock = some k → k ≠ g1 := by
          intro k hk
          rcases hat with e | e
          · exact HB2.out k (e ▸ hk)
          · rw [e] at hk; injection hk with hk; have := R3.lt; omega
        have R4 := R3.grown hgrow (fun e => HB2.out g1 e.symm rfl)
        have hb4 : Below w.heap.size w w3 := Below.grown (hb2.alloc hzw _) hgrow (by simp; omega) (owns_block HOW.out)
        have hown5 : w3.ownsRow w.heap.size 9 1 v' (q + 1) (strs (M.take (q + 1))) := by rw [HTK.out, strs_snoc]; exact hown4
        have HO4 : Hid (World.ownsRow _ _ _ _ _ _ _) := hown5
        have HNE : Hid _ := hne
        have HR4 : Hid _ := R4
        have HNV : Hid _ := hnv
        clear hgrow hat hown4 hown5 hne R4 R3 hnv hb y0
        go_wp2_with fail
        go_roundw
        case rel => exact ⟨q + 1, by omega, by go_num, HO4.out, HNV.out, HNE.out, HR4.out, hb4⟩
        case measure => simp [intOf]; omega
    · have hqM : q = M.length := by rw [HML.out]; omega
      subst hqM
      rw [List.take_length] at hown
      have hML := HML.out
      have hM := HM.out
      obtain ⟨g3, cap3, hv⟩ := owns_shape hown HN.out
      subst hv
      have HRS : Hid _ := readS_own hown
      have hdm : datas M = L.map (fieldT (textV d)) := by rw [hM]; exact datas_map _ _
      have hjm : ∀ k, (joinL (datas (M.take k))).length ≤ 6600 := fun k => by
        rw [datas_take, hdm, ← List.map_take]; exact HJ.out k
      have hsm : ∀ s ∈ M, s.size ≤ 7100 := fun s hs => by
        rw [hM] at hs
        obtain ⟨u, hu, rfl⟩ := List.mem_map.mp hs
        rw [mkB_size]; exact HTL.out u hu
      have HJM : Hid _ := hjm
      have HSM : Hid _ := hsm
      have HDM : Hid (_ = _) := hdm
      have hfin : (joinL (L.map (fieldT (textV d)))).length ≤ 6600 := by have := hjm M.length; rwa [List.take_length, hdm] at this
      have hsz2 : (mkB (joinL (L.map (fieldT (textV d))))).size ≤ 6600 := by rw [mkB_size]; exact hfin
      have hsz3 : ((⟨#[123]⟩ : ByteArray) ++ mkB (joinL (L.map (fieldT (textV d))))).size ≤ 6601 := by rw [ByteArray.size_append]; show 1 + _ ≤ _; omega
      have hMl : M.length ≤ 1000 := by omega
      clear hown HN HB2 hM hjm hsm hdm hfin hML
      go_wp2_with fail
      refine (join_any g3 cap3 M _ HRS.out hMl HJM.out HSM.out).mono ?_
      rintro e w2 ⟨rfl, hb⟩
      rw [HDM.out]
      have hb2 : Below w.heap.size w w2 := hbel.trans (hb.mono hz)
      go_wp2_with fail
      go_ret
      exact ⟨rfl, hb2⟩
theorem txt_at : ∀ d : Nat, TxtAt d
  | 0 => fun v w hf => txt_base v hf w
  | d + 1 => by
    have ih := txt_at d
    intro v w hf
    by_cases h4 : v.k = 4
    · rw [textV_list d v h4]
      obtain ⟨k, m, t⟩ := v
      have h4' : k = 4 := h4
      subst h4'
      exact txtOf_list d ih m t w hf
    · by_cases h5 : v.k = 5
      · rw [textV_doc d v h5]
        obtain ⟨k, m, t⟩ := v
        have h5' : k = 5 := h5
        subst h5'
        exact txtOf_doc d ih m t w hf
      · rw [textV_base (d + 1) v h4 h5]
        rw [fits_base (d + 1) v h4 h5] at hf
        exact txt_base v hf w

end Go.Proofs.YtkeghknceccdmaaGreatDoor
