/- What the specification's TreeRange answers, and which pages the program walks over. -/
import Derived.Test.YtnmpfooegnmknaaTrF
import Derived.Deep.RegionHeld3
namespace Go.Proofs.Ytnmpfooegnmknaa.Tr
open Go.RowKit
set_option linter.unusedVariables false

theorem chain_all : ∀ {last : Ent} {l : List Ent}, chainB last l = true → ∀ e ∈ l, entB e = true
  | _, [], _, e, he => by simp at he
  | last, a :: t, h, e, he => by
    rw [chainB_cons, Bool.and_eq_true, Bool.and_eq_true] at h
    rcases List.mem_cons.mp he with rfl | he
    · exact h.1.1
    · exact chain_all h.2 e he
theorem ents_all : ∀ {last : Ent} {f : List Pg}, entsB last f = true → ∀ p ∈ f, ∀ e ∈ p.es, entB e = true
  | _, [], _, p, hp => by simp at hp
  | last, a :: t, h, p, hp => by
    rw [entsB_cons, Bool.and_eq_true] at h
    rcases List.mem_cons.mp hp with rfl | hp
    · exact chain_all h.1
    · exact ents_all h.2 p hp
theorem entB_key {e : Ent} (h : entB e = true) : e.key.size ≤ 2000 := by unfold entB at h; simp at h; exact h.1
theorem hasP_small (iv : Ivl) (k : ByteArray) (h : k.size ≤ 2000) : hasP iv k = hasI iv k := by unfold hasP; rw [decide_eq_true (by omega), Bool.true_and]
/-- What TreeRange tells: entries, numbers, a code. -/
def rangeE (f : List Pg) (next : Int) (iv : Ivl) : List Ent := if treeB f next = true then entsOf iv (overP f iv) else []
def rangeN (f : List Pg) (next : Int) (iv : Ivl) : List Int := if treeB f next = true then numsOf (overP f iv) else []
def rangeC (f : List Pg) (next : Int) : Int := if treeB f next = true then 0 else 1
def OwnI (w : World) (base : Nat) (v : Value) (l : List Int) : Prop := w.ownsRow base 3 1 v l.length (intsV l)
theorem numsOf_len (ps : List Pg) : (numsOf ps).length = ps.length := by unfold numsOf; simp

set_option maxRecDepth 4000 in
set_option maxHeartbeats 2000000 in
theorem specTreeRange_any (p : Option Addr) (cap : Nat) (f : List Pg) (next : Int) (iv : Ivl) (w : World) (hr : RowP w p f) (hl : f.length ≤ 1048576) (hs : ∀ l ∈ f, szP l) :
    Calls Try.prog 25 #[.agg #[.slice p f.length cap, .int .i64 next], .agg #[.string iv.lo, .string iv.hi, .bool iv.op]] w fun e w' => (∃ v1 v2, e = .returned (.tuple #[v1, v2, .int .i64 (rangeC f next)]) ∧ OwnE w' w.heap.size v1 (rangeE f next iv) ∧ OwnI w' w.heap.size v2 (rangeN f next iv)) ∧ Below w.heap.size w w' := by
  have X0 := BoxTI.start w (.slice p f.length cap) next iv 37 52
  have HR : Hid (RowP _ _ _) := hr
  have HC0 := specTreeOK_any p cap f next _ (hr.next X0.bel) hl hs
  unfold rangeE rangeN rangeC OwnI
  clear hr hs
  cases hT : treeB f next
  · rw [hT] at HC0
    rw [if_neg (by simp), if_neg (by simp), if_neg (by simp)]
    have HC : Hid (Calls _ _ _ _ _) := HC0
    clear HC0 hT
    go_enter Try.func25, Try.ntmps25
    go_wp2_with fail
    refine HC.out.mono ?_
    rintro e w1 ⟨rfl, hb1⟩
    have X1 := X0.step hb1
    have xb := X1.bel
    have hz := xb.size
    clear hb1 HC X0 X1
    go_wp2_with fail
    refine bodyPost_ret (v := .tuple #[.slice (some ⟨w1.heap.size, 0, none⟩) 0 0, .slice (some ⟨w1.heap.size + 1, 0, none⟩) 0 0, .int .i64 1]) (by simp [results, Try.results25, go_sem]) rfl ⟨⟨_, _, rfl, ?_, ?_⟩, by (repeat (first | (with_reducible exact Below.refl _ _) | (with_reducible assumption) | (with_reducible apply below_drewN) | (with_reducible apply Below.drew) | ((with_reducible refine Below.setCell ?_ ?_ _); rotate_left; focus (first | (simp; done) | (simp; omega) | omega)) | ((with_reducible refine Below.alloc ?_ ?_ _); rotate_left; focus (first | (simp; done) | (simp; omega) | omega))))⟩
    · exact World.ownsRow.alloc (World.ownsRow_made (size := 2) (base := w.heap.size) (e := 40) w1 #[] 0 hz (by unfold maxLen; omega) rfl) _
    · have h := World.ownsRow_made (size := 1) (base := w.heap.size) (e := 3) (w1.alloc (.cells #[] 40)) #[] 0 (by simp; omega) (by unfold maxLen; omega) rfl
      simp at h
      exact h
  · rw [hT] at HC0
    rw [if_pos rfl, if_pos rfl, if_pos rfl]
    obtain ⟨⟨h1, h2, h3, h4⟩, h5, _, _⟩ := tree_parts hT
    have HC : Hid (Calls _ _ _ _ _) := HC0
    have HRG : Hid (∀ W : World, Below w.heap.size w W → Calls _ _ _ W _) := fun W hW => specRange_any p cap f next iv W (HR.out.next hW) h1 h2 (fun l hm => (h5 l hm).1) (fun hh l hm => by have := (h5 l hm).2; omega)
    clear HC0 hT h5
    go_enter Try.func25, Try.ntmps25
    go_wp2_with fail
    refine HC.out.mono ?_
    rintro e w1 ⟨rfl, hb1⟩
    have X1 := X0.step hb1
    obtain ⟨xb, xl, c0, c1, d0, d1, d2⟩ := X1
    clear hb1 HC X0
    go_wp2_with fail
    refine (HRG.out _ xb).mono ?_
    rintro e w2 ⟨⟨v1, v2, rfl, hO1, hO2⟩, hb2⟩
    have B2 := xb.trans (hb2.mono xb.size)
    have HO1 : Hid (OwnE _ _ _ _) := owns_mono hO1 xb.size
    have HO2 : Hid (World.ownsRow _ _ _ _ _ _ _) := owns_mono hO2 xb.size
    clear hO1 hO2 hb2
    go_wp2_with fail
    refine bodyPost_ret (v := .tuple #[v1, v2, .int .i64 0]) (by simp [results, Try.results25, go_sem]) rfl ⟨⟨_, _, rfl, HO1.out, by rw [numsOf_len]; exact HO2.out⟩, B2⟩

theorem take_succ_drop (f : List Pg) (lo h : Nat) (h1 : lo ≤ h) (h2 : h < f.length) : (f.drop lo).take (h + 1 - lo) = (f.drop lo).take (h - lo) ++ [f[h]] := by
  have hl : h - lo < (f.drop lo).length := by rw [List.length_drop]; omega
  rw [show h + 1 - lo = (h - lo) + 1 by omega, List.take_succ_eq_append_getElem hl]
  congr 1
  rw [List.getElem_drop]
  congr 2
  omega

set_option maxRecDepth 4000 in
set_option maxHeartbeats 2000000 in
theorem pagesOver_any (gp cap : Nat) (f : List Pg) (iv : Ivl) (w : World) (hr : PtrP w gp f) (h1 : 1 ≤ f.length) (hl : f.length ≤ 60) (hcap : f.length ≤ cap) (hcm : cap ≤ maxLen) (hs : ∀ l ∈ f, l.es.length ≤ 4) (hne : 1 < f.length → ∀ l ∈ f, 0 < l.es.length) :
    Calls Try.prog 55 #[.slice (some ⟨gp, 0, none⟩) f.length cap, .agg #[.string iv.lo, .string iv.hi, .bool iv.op]] w fun e w' => (∃ m, 1 ≤ m ∧ loP f iv + m ≤ f.length ∧ overP f iv = (f.drop (loP f iv)).take m ∧ e = .returned (.slice (some ⟨gp, loP f iv, none⟩) m m)) ∧ Below w.heap.size w w' := by
  have hb0 : Below w.heap.size w (w.alloc (.cells #[.string iv.lo, .string iv.hi, .bool iv.op] 52)) := (Below.refl _ _).alloc (Nat.le_refl _) _
  have d0 : (w.alloc (.cells #[.string iv.lo, .string iv.hi, .bool iv.op] 52)).cell? ⟨w.heap.size, 0, none⟩ = some (.string iv.lo) := by simp [go_sem]
  have d1 : (w.alloc (.cells #[.string iv.lo, .string iv.hi, .bool iv.op] 52)).cell? ⟨w.heap.size, 1, none⟩ = some (.string iv.hi) := by simp [go_sem]
  have d2 : (w.alloc (.cells #[.string iv.lo, .string iv.hi, .bool iv.op] 52)).cell? ⟨w.heap.size, 2, none⟩ = some (.bool iv.op) := by simp [go_sem]
  have l0 : w.heap.size < (w.alloc (.cells #[.string iv.lo, .string iv.hi, .bool iv.op] 52)).heap.size := by simp
  have HR : Hid (PtrP _ _ _) := hr.next hb0
  have HNE : Hid _ := hne
  have HS : Hid _ := hs
  have hplc := place_lt f ⟨iv.lo, -1⟩ (by omega)
  have HPP0 : ∀ W : World, PtrP W gp f → Calls Try.prog 58 #[.slice (some ⟨gp, 0, none⟩) f.length cap, .agg #[.string iv.lo, .int .i64 (-1)]] W fun e w' => e = .returned (.int .i64 (loP f iv : Nat)) ∧ Below W.heap.size W w' := fun W hW => pagePlace_any gp cap f ⟨iv.lo, -1⟩ W hW (by omega) h1 (fun l hm => by have := hs l hm; omega) hne
  have hov0 : overP f iv = (f.drop (loP f iv)).take (loP f iv + 1 - loP f iv) ++ (f.drop (loP f iv + 1)).takeWhile (goB iv) := by unfold overP; rw [show loP f iv + 1 - loP f iv = 1 by omega]
  obtain ⟨lo, hlo⟩ : ∃ lo, lo = loP f iv := ⟨_, rfl⟩
  have hlolt : lo < f.length := by rw [hlo]; exact hplc
  rw [← hlo] at HPP0 hov0 ⊢
  have HPP : Hid (∀ W : World, PtrP W gp f → Calls _ _ _ W _) := HPP0
  have HOV : Hid _ := hov0
  clear hr hs hne hplc HPP0 hov0 hlo
  go_enter Try.func55, Try.ntmps55
  go_wp2_with fail
  generalize w.alloc (.cells #[.string iv.lo, .string iv.hi, .bool iv.op] 52) = W0 at hb0 d0 d1 d2 l0 HR ⊢
  refine (aheadOf_any iv.lo W0).mono ?_
  rintro e w1 ⟨rfl, hb1⟩
  go_wp2_with fail
  refine (HPP.out _ (HR.out.next hb1)).mono ?_
  rintro e w2 ⟨rfl, hb2⟩
  have B2 : Below W0.heap.size W0 w2 := hb1.trans (hb2.mono hb1.size)
  clear hb1 hb2 HPP
  go_wp2_with fail
  go_loopw [6] (fun i wr => ∃ h : Nat, lo + 1 ≤ h ∧ h ≤ f.length ∧ i = .int .i64 h ∧ overP f iv = (f.drop lo).take (h - lo) ++ (f.drop h).takeWhile (goB iv) ∧ Below W0.heap.size W0 wr) (fun i _ => f.length - (intOf i).toNat)
  case atStart => exact ⟨lo + 1, Nat.le_refl _, by omega, by go_num, HOV.out, B2⟩
  case round =>
    obtain ⟨h, hh1, hh2, rfl, hov, hbel⟩ := hrel
    have HO : Hid _ := hov
    clear hov HOV B2
    have hz := hbel.size
    have hlz : w.heap.size < wr.heap.size := by omega
    have u1 : ∀ u : Under wr, u.x.cell? ⟨w.heap.size, 1, none⟩ = some (.string iv.hi) := fun u => (u.h.cell hlz).trans ((hbel.cell l0).trans d1)
    have u2 : ∀ u : Under wr, u.x.cell? ⟨w.heap.size, 2, none⟩ = some (.bool iv.op) := fun u => (u.h.cell hlz).trans ((hbel.cell l0).trans d2)
    have hnu : Nonempty (Under wr) := ⟨⟨wr, Below.refl _ _⟩⟩
    by_cases hlt : h < f.length
    · have hd : decide (h < f.length) = true := decide_eq_true hlt
      have hlt2 : (h : Int) < (f.length : Int) := by omega
      obtain ⟨b, o, x0, y0, y1, q, c, y2, t1⟩ := (HR.out.next hbel).cells h hlt
      have hgl : gp < wr.heap.size := Nat.lt_of_lt_of_le HR.out.lt hbel.size
      have hz1 : 0 < f[h].es.length := HNE.out (by omega) f[h] (List.getElem_mem _)
      rcases t1 with h0 | ⟨b2, off, rfl, hbl, hc⟩
      · omega
      obtain ⟨z0, _⟩ := hc 0 hz1
      have hgs := goB_some (iv := iv) hz1
      obtain ⟨fe, hfe⟩ : ∃ fe, fe = f[h].es[0] := ⟨_, rfl⟩
      rw [← hfe] at z0 hgs
      have u3 : ∀ u : Under wr, u.x.cell? ⟨gp, h, none⟩ = some (.pointer (some ⟨b, o, none⟩)) := fun u => (u.h.cell hgl).trans x0
      have u4 : ∀ u : Under wr, u.x.cell? ⟨b, o + 1, none⟩ = some (.slice (some ⟨b2, off, none⟩) f[h].es.length c) := fun u => (u.h.cell y0).trans y2
      have u5 : ∀ u : Under wr, u.x.cell? ⟨b2, off, none⟩ = some (.string fe.key) := fun u => (u.h.cell hbl).trans z0
      have u6 : ∀ u : Under wr, u.x.cell? ⟨b, o, none⟩ = some (.int .i64 f[h].num) := fun u => (u.h.cell y0).trans y1
      have hzd : decide (0 < f[h].es.length) = true := decide_eq_true hz1
      have hzi : 0 < (f[h].es.length : Int) := by omega
      have hst := over_step iv f h hlt
      have htk := take_succ_drop f lo h (by omega) hlt
      clear hc hfe x0 y1 y2 z0
      cases hop : iv.op
      · rw [hop] at u2 hgs
        cases hL : Op.bytesLess fe.key.toList iv.hi.toList
        · rw [hL] at hgs
          rw [if_neg (by rw [hgs]; simp)] at hst
          have HFIN : Hid (overP f iv = (f.drop lo).take (h - lo)) := HO.out.trans (by rw [hst, List.append_nil])
          have hcap2 : (h : Int) ≤ (cap : Int) := by omega
          have hlh : (lo : Int) ≤ (h : Int) := by omega
          have hpos : ¬ h - lo = 0 := by omega
          clear hst hgs htk hop
          go_wp2_with fail
          refine wp_region_under (by kernel_rfl) (by kernel_rfl) ?_
          repeat (go_big_quiet_step (fail))
          refine wpQuiet_nil ?_
          rintro _ ⟨u, rfl⟩
          go_wp2_with fail
          go_ret
          exact ⟨⟨h - lo, by omega, by omega, HFIN.out, rfl⟩, hb0.trans ((hbel.trans (u.h.mono hbel.size)).mono hb0.size)⟩
        · rw [hL] at hgs
          rw [if_pos (by rw [hgs]; rfl)] at hst
          have HST : Hid (overP f iv = (f.drop lo).take (h + 1 - lo) ++ (f.drop (h + 1)).takeWhile (goB iv)) := HO.out.trans (by rw [hst, htk, List.append_assoc]; rfl)
          clear hst hgs htk hop
          go_wp2_with fail
          refine wp_region_under (by kernel_rfl) (by kernel_rfl) ?_
          repeat (go_big_quiet_step (fail))
          refine wpQuiet_nil ?_
          rintro _ ⟨u, rfl⟩
          go_wp2_with fail
          go_roundw
          case rel => exact ⟨h + 1, by omega, by omega, by go_num, HST.out, hbel.trans (u.h.mono hbel.size)⟩
          case measure => simp [intOf]; omega
      · rw [hop] at u2 hgs
        rw [if_pos (by rw [hgs]; rfl)] at hst
        have HST : Hid (overP f iv = (f.drop lo).take (h + 1 - lo) ++ (f.drop (h + 1)).takeWhile (goB iv)) := HO.out.trans (by rw [hst, htk, List.append_assoc]; rfl)
        clear hst hgs htk hop
        go_wp2_with fail
        refine wp_region_under (by kernel_rfl) (by kernel_rfl) ?_
        repeat (go_big_quiet_step (fail))
        refine wpQuiet_nil ?_
        rintro _ ⟨u, rfl⟩
        go_wp2_with fail
        go_roundw
        case rel => exact ⟨h + 1, by omega, by omega, by go_num, HST.out, hbel.trans (u.h.mono hbel.size)⟩
        case measure => simp [intOf]; omega
    · have hd : decide (h < f.length) = false := decide_eq_false hlt
      have HFIN : Hid (overP f iv = (f.drop lo).take (h - lo)) := HO.out.trans (by rw [show f.drop h = [] from List.drop_of_length_le (by omega)]; simp)
      have hcap2 : (h : Int) ≤ (cap : Int) := by omega
      have hlh : (lo : Int) ≤ (h : Int) := by omega
      have hpos : ¬ h - lo = 0 := by omega
      go_wp2_with fail
      refine wp_region_under (by kernel_rfl) (by kernel_rfl) ?_
      repeat (go_big_quiet_step (fail))
      refine wpQuiet_nil ?_
      rintro _ ⟨u, rfl⟩
      go_wp2_with fail
      go_ret
      exact ⟨⟨h - lo, by omega, by omega, HFIN.out, rfl⟩, hb0.trans ((hbel.trans (u.h.mono hbel.size)).mono hb0.size)⟩

end Go.Proofs.Ytnmpfooegnmknaa.Tr
