/- What the program's TreeRange answers. -/
import Derived.Test.YtnmpfooegnmknaaTrG
namespace Go.Proofs.Ytnmpfooegnmknaa.Tr
open Go.RowKit
set_option linter.unusedVariables false

theorem keepR {w W w0 : World} {v : Value} {next : Int} {iv : Ivl} (X : BoxTI w W v next iv) (hb : Below W.heap.size W w0) :
    w0.cell? ⟨w.heap.size, 0, none⟩ = some v ∧ w0.cell? ⟨w.heap.size + 1, 0, none⟩ = some (.string iv.lo) ∧ w0.cell? ⟨w.heap.size + 1, 1, none⟩ = some (.string iv.hi) ∧ w0.cell? ⟨w.heap.size + 1, 2, none⟩ = some (.bool iv.op) :=
  ⟨(X.step hb).c0, (X.step hb).d0, (X.step hb).d1, (X.step hb).d2⟩
/-- A row of pointers to pages, from place lo on. -/
def PtrR (w : World) (gp lo : Nat) (ps : List Pg) : Prop := gp < w.heap.size ∧ ∀ i (h : i < ps.length), ∃ b o, w.cell? ⟨gp, lo + i, none⟩ = some (.pointer (some ⟨b, o, none⟩)) ∧ PageAtA w b o ps[i]
theorem PtrR.next {w w' : World} {gp lo : Nat} {ps : List Pg} (h : PtrR w gp lo ps) (hb : Below w.heap.size w w') : PtrR w' gp lo ps :=
  ⟨Nat.lt_of_lt_of_le h.1 hb.size, fun i hi => by
    obtain ⟨b, o, h1, h2⟩ := h.2 i hi
    exact ⟨b, o, (hb.cell h.1).trans h1, h2.next hb⟩⟩
theorem PtrP.part {w : World} {gp : Nat} {f : List Pg} (h : PtrP w gp f) (lo m : Nat) (hm : lo + m ≤ f.length) : PtrR w gp lo ((f.drop lo).take m) :=
  ⟨h.lt, fun i hi => by
    have hi' : i < m := by rw [List.length_take, List.length_drop] at hi; omega
    obtain ⟨b, o, h1, h2⟩ := h.cells (lo + i) (by omega)
    refine ⟨b, o, h1, ?_⟩
    have e : ((f.drop lo).take m)[i] = f[lo + i] := by rw [List.getElem_take, List.getElem_drop]
    rw [e]; exact h2⟩

set_option maxRecDepth 4000 in
set_option maxHeartbeats 4000000 in
theorem treeRange_any (p : Option Addr) (cap : Nat) (f : List Pg) (next : Int) (iv : Ivl) (w : World) (hr : RowP w p f) (hl : f.length ≤ 1048576) (hcap : f.length ≤ cap) (hs : ∀ l ∈ f, szP l) :
    Calls Try.prog 19 #[.agg #[.slice p f.length cap, .int .i64 next], .agg #[.string iv.lo, .string iv.hi, .bool iv.op]] w fun e w' => (∃ v1 v2, e = .returned (.tuple #[v1, v2, .int .i64 (rangeC f next)]) ∧ OwnE w' w.heap.size v1 (rangeE f next iv) ∧ OwnI w' w.heap.size v2 (rangeN f next iv)) ∧ Below w.heap.size w w' := by
  obtain ⟨iE, hiE, hzE0, hzE1, hzE2⟩ := info_parts infoE
  obtain ⟨iI, hiI, hzI0, hzI1, hzI2⟩ := info_parts infoI
  have X0 := BoxTI.start w (.slice p f.length cap) next iv 37 52
  have HR : Hid (RowP _ _ _) := hr
  have HC0 := treeOK_any p cap f next _ (hr.next X0.bel) hl hcap hs
  unfold rangeE rangeN rangeC OwnI
  clear hr hs
  cases hT : treeB f next
  · rw [hT] at HC0
    rw [if_neg (by simp), if_neg (by simp), if_neg (by simp)]
    have HC : Hid (Calls _ _ _ _ _) := HC0
    clear HC0 hT
    go_enter Try.func19, Try.ntmps19
    go_wp2_with fail
    refine HC.out.mono ?_
    rintro e w1 ⟨rfl, hb1⟩
    have xb := (X0.step hb1).bel
    clear hb1 HC X0
    go_wp2_with fail
    refine bodyPost_ret (v := .tuple #[.slice none 0 0, .slice none 0 0, .int .i64 1]) (by simp [results, Try.results19, go_sem]) rfl ⟨⟨_, _, rfl, ⟨rfl, .inl ⟨rfl, rfl⟩⟩, ⟨rfl, .inl ⟨rfl, rfl⟩⟩⟩, xb⟩
  · rw [hT] at HC0
    rw [if_pos rfl, if_pos rfl, if_pos rfl]
    obtain ⟨⟨h1, h2, h3, h4⟩, h5, _, hents⟩ := tree_parts hT
    have HC : Hid (Calls _ _ _ _ _) := HC0
    obtain ⟨g, rfl⟩ : ∃ g, p = some ⟨g, 0, none⟩ := by
      rcases HR.out with h0 | ⟨g, hp, _⟩
      · rw [h0] at h1; simp at h1
      · exact ⟨g, hp⟩
    have HRD : Hid (ReadP w g f) := by
      rcases HR.out with h0 | ⟨g', hp, R1⟩
      · rw [h0] at h1; simp at h1
      · injection hp with hp; injection hp with hp; subst hp; exact R1
    have HPT : Hid (∀ W : World, Calls _ _ _ W _) := fun W => pointersTo_any g cap f.length W h2
    have HNE : Hid (1 < f.length → ∀ l ∈ f, 0 < l.es.length) := fun hh l hm => by have := (h5 l hm).2; omega
    have HF4 : Hid (∀ l ∈ f, l.es.length ≤ 4) := fun l hm => (h5 l hm).1
    have HEN : Hid (∀ l ∈ f, ∀ e ∈ l.es, entB e = true) := ents_all hents
    clear HC0 hT h5 hents HR
    go_enter Try.func19, Try.ntmps19
    go_wp2_with fail
    refine HC.out.mono ?_
    rintro e w1 ⟨rfl, hb1⟩
    have X1 := X0.step hb1
    clear hb1 HC X0
    go_wp2_with fail
    go_region_held3 (fun w0 => w0.cell? ⟨w.heap.size, 0, none⟩ = some (.slice (some ⟨g, 0, none⟩) f.length cap) ∧ w0.cell? ⟨w.heap.size + 1, 0, none⟩ = some (.string iv.lo) ∧ w0.cell? ⟨w.heap.size + 1, 1, none⟩ = some (.string iv.hi) ∧ w0.cell? ⟨w.heap.size + 1, 2, none⟩ = some (.bool iv.op)) ((refine keepR X1 ?_; (repeat (first | (with_reducible exact Below.refl _ _) | (with_reducible assumption) | (with_reducible apply below_drewN) | (with_reducible apply Below.drew) | ((with_reducible refine Below.setCell ?_ ?_ _); rotate_left; focus (first | (simp; done) | (simp; omega) | omega)) | ((with_reducible refine Below.alloc ?_ ?_ _); rotate_left; focus (first | (simp; done) | (simp; omega) | omega)))))) (first | (go_at_call 56; refine (HPT.out _).mono ?_; rintro e w2 ⟨⟨v, rfl, hown⟩, hb⟩; obtain ⟨gp, pc, rfl, hg1, hg2, hg3, hg4⟩ := owns_form hown (by omega); have hB2 : Below w1.heap.size w1 w2 := (show Below w1.heap.size w1 _ by (repeat (first | (with_reducible exact Below.refl _ _) | (with_reducible assumption) | (with_reducible apply below_drewN) | (with_reducible apply Below.drew) | ((with_reducible refine Below.setCell ?_ ?_ _); rotate_left; focus (first | (simp; done) | (simp; omega) | omega)) | ((with_reducible refine Below.alloc ?_ ?_ _); rotate_left; focus (first | (simp; done) | (simp; omega) | omega))))).trans (hb.mono (by simp)); have HPP : Hid (PtrP _ _ _) := owns_ptr hown rfl rfl (HRD.out.next (X1.step hB2).bel); clear hb hown) | (go_at_call 55; refine (pagesOver_any gp pc f iv _ HPP.out h1 h2 hg3 hg4 HF4.out HNE.out).mono ?_; rintro e w3 ⟨⟨m, hm1, hm2, hm3, rfl⟩, hb⟩; have hB3 : Below w1.heap.size w1 w3 := hB2.trans (hb.mono hB2.size); have HPP3 : Hid (PtrP _ _ _) := HPP.out.next hb; clear hb))
    have X3 := X1.step hB3
    have HPR : Hid (PtrR w3 gp (loP f iv) (overP f iv)) := by rw [hm3]; exact HPP3.out.part _ _ hm2
    have hml : (overP f iv).length = m := by rw [hm3, List.length_take, List.length_drop]; omega
    have HMEM : Hid (∀ q ∈ overP f iv, q ∈ f) := fun q hq => by rw [hm3] at hq; exact List.mem_of_mem_drop (List.mem_of_mem_take hq)
    obtain ⟨ps, hps⟩ : ∃ ps, ps = overP f iv := ⟨_, rfl⟩
    rw [← hps] at HPR hml HMEM
    have HPS : Hid (ps = overP f iv) := hps
    obtain ⟨lo, hlo⟩ : ∃ lo, lo = loP f iv := ⟨_, rfl⟩
    rw [← hlo] at HPR hm2 ⊢
    have hm60 : m ≤ 60 := by omega
    have hpl60 : ps.length ≤ 60 := by omega
    have XB := X3.bel
    clear hm3 hps hlo hB2 hB3 HPP HPP3 X1 hg1 hg2 hg3 hg4
    subst hml
    go_wp2_with fail
    go_loopw [7, 8, 22] (fun v1 v2 i wr => ∃ k : Nat, k ≤ ps.length ∧ i = .int .i64 k ∧ OwnE wr w3.heap.size v1 (entsOf iv (ps.take k)) ∧ wr.ownsRow w3.heap.size 3 1 v2 k (intsV (numsOf (ps.take k))) ∧ Below w3.heap.size w3 wr) (fun _ _ i _ => ps.length - (intOf i).toNat)
    case atStart => exact ⟨0, Nat.zero_le _, rfl, ⟨rfl, .inl ⟨rfl, rfl⟩⟩, ⟨rfl, .inl ⟨rfl, rfl⟩⟩, Below.refl _ _⟩
    case round =>
      obtain ⟨k, hk, rfl, hO1, hO2, hbel⟩ := hrel
      have hz := hbel.size
      by_cases hlt : k < ps.length
      · have hlt2 : (k : Int) < (ps.length : Int) := by omega
        obtain ⟨b, o, x0w, y0w, y1w, q, c, y2w, t0⟩ := HPR.out.2 k hlt
        have x0 := (hbel.cell HPR.out.1).trans x0w
        have y1 := (hbel.cell y0w).trans y1w
        have y2 := (hbel.cell y0w).trans y2w
        have HT0 : Hid (InE _ _ _) := t0
        clear t0 x0w
        have h4 := HF4.out ps[k] (HMEM.out _ (List.getElem_mem _))
        have hel := entsOf_len iv (ps.take k) (fun r hr => HF4.out r (HMEM.out r (List.mem_of_mem_take hr)))
        have hel2 : (ps.take k).length ≤ 60 := by rw [List.length_take]; omega
        have HO1 : Hid (OwnE _ _ _ _) := hO1
        have HB : Hid (Below _ _ _) := hbel
        clear hO1
        go_wp2_with (at_builtin; refine wpList_append_own_at _ rfl (.tmp 26) (.tmp 31) 48 rfl w3.heap.size 3 iI (.int .i64 0) 1 8 Try.underlying48 hiI hzI0 hzI1 hzI2 rfl (by decide) _ _ _ rfl (hO2.alloc _) ⟨wr.heap.size, 0, none⟩ 1 1 [.int .i64 ps[k].num] rfl rfl (cell_one_new _ _ _) ?c2 ?c3 ?c4 ?c5 ?_)
        case c2 => intro r hr; simp at hr; subst hr; rfl
        case c3 => unfold maxLen; omega
        case c4 => omega
        case c5 => simp; omega
        intro v2' w4 hO2v hg4 hnv hat
        have hO1v := World.ownsRow.kept (World.ownsRow.alloc HO1.out (.cells #[.int .i64 ps[k].num] 3)) hg4 (owns_types (World.ownsRow.alloc HO1.out (.cells #[.int .i64 ps[k].num] 3)) (World.ownsRow.alloc hO2 (.cells #[.int .i64 ps[k].num] 3)) tne)
        have B4 : Below w3.heap.size wr w4 := Below.grown ((Below.refl _ wr).alloc hz (.cells #[.int .i64 ps[k].num] 3)) hg4 (by simp; omega) (fun b hb => (hO2.lt b hb).1)
        have B34 := HB.out.trans B4
        have hO2n : w4.ownsRow w3.heap.size 3 1 v2' (k + 1) (intsV (numsOf (ps.take (k + 1)))) := by rw [List.take_succ_eq_append_getElem hlt, numsOf_app, intsV_app]; exact hO2v
        have HO2n : Hid (World.ownsRow _ _ _ _ _ _ _) := hO2n
        have HO1n : Hid (OwnE _ _ _ _) := hO1v
        have HB4 : Hid (Below _ _ _) := B34
        have y2' := (B34.cell y0w).trans y2w
        have y1' := (B34.cell y0w).trans y1w
        clear hg4 hO1v hO2v hO2n hnv hat B4 B34 hO2 x0 y1 y2 hbel
        go_wp2_with fail
        go_loopw [7, 38] (fun v1 i wq => ∃ j : Nat, j ≤ ps[k].es.length ∧ i = .int .i64 j ∧ OwnE wq w3.heap.size v1 (entsOf iv (ps.take k) ++ filt iv ps[k].es j) ∧ wq.ownsRow w3.heap.size 3 1 v2' (k + 1) (intsV (numsOf (ps.take (k + 1)))) ∧ Below w3.heap.size w3 wq) (fun _ i _ => ps[k].es.length - (intOf i).toNat)
        case atStart => exact ⟨0, Nat.zero_le _, rfl, by rw [show filt iv ps[k].es 0 = [] from rfl, List.append_nil]; exact HO1n.out, HO2n.out, HB4.out⟩
        case round =>
          obtain ⟨j, hj, rfl, hO1, hO2, hbq⟩ := hrel
          have HO1 : Hid (OwnE _ _ _ _) := hO1
          have HO2 : Hid (World.ownsRow _ _ _ _ _ _ _) := hO2
          have HBQ : Hid (Below _ _ _) := hbq
          have hfl := filt_len iv ps[k].es j
          have hzq := hbq.size
          clear hO1 hO2 HO1n HO2n HB4 y1' y2'
          by_cases hjl : j < ps[k].es.length
          · have hjl2 : (j : Int) < (ps[k].es.length : Int) := by omega
            rcases HT0.out.step hbq with h0 | ⟨b2, off, hpa, hbl, hc⟩
            · omega
            cases hpa
            obtain ⟨z0, z1⟩ := hc j hjl
            have hke := entB_key (HEN.out ps[k] (HMEM.out _ (List.getElem_mem _)) ps[k].es[j] (List.getElem_mem _))
            obtain ⟨en, hen⟩ : ∃ en, en = ps[k].es[j] := ⟨_, rfl⟩
            have hyes := filt_yes iv ps[k].es j hjl
            have hno := filt_no iv ps[k].es j hjl
            rw [← hen] at z0 z1 hyes hno hke
            have HYES : Hid _ := hyes
            have HNO : Hid _ := hno
            have X := X3.step hbq
            have hbA : Below wr.heap.size wr (wr.alloc (.cells #[.string en.key, .int .i64 en.id] 40)) := (Below.refl _ _).alloc (Nat.le_refl _) _
            have XA := X.step hbA
            obtain ⟨_, xl, _, _, d0, d1, d2⟩ := XA
            have e0' : (wr.alloc (.cells #[.string en.key, .int .i64 en.id] 40)).cell? ⟨wr.heap.size, 0, none⟩ = some (.string en.key) := by simp [go_sem]
            have e1' : (wr.alloc (.cells #[.string en.key, .int .i64 en.id] 40)).cell? ⟨wr.heap.size, 1, none⟩ = some (.int .i64 en.id) := by simp [go_sem]
            have el' : wr.heap.size < (wr.alloc (.cells #[.string en.key, .int .i64 en.id] 40)).heap.size := by simp
            have HH0 := implHas_any iv.lo iv.hi iv.op en.key (wr.alloc (.cells #[.string en.key, .int .i64 en.id] 40)) (by omega)
            rw [show hasP ⟨iv.lo, iv.hi, iv.op⟩ en.key = hasI iv en.key from hasP_small iv en.key hke] at HH0
            have HBA : Hid (Below _ _ _) := hbA
            have hke2 : en.key.size ≤ 1048576 := by omega
            clear hc hen hyes hno X hbA
            cases hH : hasI iv en.key
            · rw [hH] at HH0
              have HH : Hid (Calls _ _ _ _ _) := HH0
              have HN : Hid (filt iv ps[k].es (j + 1) = filt iv ps[k].es j) := HNO.out hH
              clear HH0 hH
              go_wp2_with fail
              refine HH.out.mono ?_
              rintro e w5 ⟨rfl, hb5⟩
              have hb5' := HBA.out.trans (hb5.mono HBA.out.size)
              have hO1x := owns_below HO1.out hb5'
              have HO1x : Hid (OwnE _ _ _ _) := hO1x
              have HO2x : Hid (World.ownsRow _ _ _ _ _ _ _) := owns_below HO2.out hb5'
              have HBx : Hid (Below _ _ _) := HBQ.out.trans (hb5'.mono HBQ.out.size)
              clear hb5 hb5' hO1x HH
              go_wp2_with fail
              go_roundw
              case rel => exact ⟨j + 1, by omega, by go_num, by rw [HN.out]; exact HO1x.out, HO2x.out, HBx.out⟩
              case measure => simp [intOf]; omega
            · rw [hH] at HH0
              have HH : Hid (Calls _ _ _ _ _) := HH0
              have HN : Hid (filt iv ps[k].es (j + 1) = filt iv ps[k].es j ++ [en]) := HYES.out hH
              clear HH0 hH
              go_wp2_with fail
              refine HH.out.mono ?_
              rintro e w5 ⟨rfl, hb5⟩
              have hb5' := HBA.out.trans (hb5.mono HBA.out.size)
              have f0 := (hb5.cell el').trans e0'
              have f1 := (hb5.cell el').trans e1'
              have HB5 : Hid (Below _ _ _) := hb5'
              have hz5 := hb5'.size
              clear hb5 hb5' HH
              go_wp2_with fail
              refine (ownEntry_any en.key en.id _ hke2).mono ?_
              rintro e w6 ⟨rfl, hb6⟩
              have hb6' := HB5.out.trans (hb6.mono HB5.out.size)
              have hO1x := owns_below HO1.out hb6'
              have hO2x := owns_below HO2.out hb6'
              have HBx : Hid (Below _ _ _) := HBQ.out.trans (hb6'.mono HBQ.out.size)
              have hz6 : w3.heap.size ≤ w6.heap.size := HBx.out.size
              clear hb6 hb6' HB5 f0 f1 e0' e1' el' d0 d1 d2 xl
              go_wp2_with (at_builtin; refine wpList_append_own_at _ rfl (.tmp 46) (.tmp 49) 47 rfl w3.heap.size 40 iE (.agg #[.string em, .int .i64 0]) 2 24 Try.underlying47 hiE hzE0 hzE1 hzE2 rfl (by decide) _ _ _ rfl (hO1x.alloc _) ⟨w6.heap.size, 0, none⟩ 1 1 [.string en.key, .int .i64 en.id] rfl rfl ?c1 ?c2 ?c3 ?c4 ?c5 ?_)
              case c1 =>
                intro j' x hj'
                match j', hj' with
                | 0, hj' => simp at hj'; subst hj'; simp [Addr.add, go_sem]
                | 1, hj' => simp at hj'; subst hj'; simp [Addr.add, go_sem]
                | j' + 2, hj' => simp at hj'
              case c2 => intro x hx; simp at hx; rcases hx with rfl | rfl <;> rfl
              case c3 => rw [List.length_append]; unfold maxLen; omega
              case c4 => rw [List.length_append]; omega
              case c5 => simp; omega
              intro v1' w7 hO1v hg7 hnv hat
              have hO2v := World.ownsRow.kept (World.ownsRow.alloc hO2x (.cells #[.string en.key, .int .i64 en.id] 40)) hg7 (owns_types (World.ownsRow.alloc hO2x (.cells #[.string en.key, .int .i64 en.id] 40)) (World.ownsRow.alloc hO1x (.cells #[.string en.key, .int .i64 en.id] 40)) tne')
              have B7 : Below w3.heap.size w6 w7 := Below.grown ((Below.refl _ w6).alloc hz6 (.cells #[.string en.key, .int .i64 en.id] 40)) hg7 (by simp; omega) (fun b hb => (hO1x.lt b hb).1)
              have HB7 : Hid (Below _ _ _) := HBx.out.trans B7
              have hO1w : OwnE w7 w3.heap.size v1' (entsOf iv (ps.take k) ++ filt iv ps[k].es (j + 1)) := by
                rw [HN.out, ← List.append_assoc]
                unfold OwnE
                rw [flatE_snoc, List.length_append, List.length_append]
                exact hO1v
              have HO1w : Hid (OwnE _ _ _ _) := hO1w
              have HO2w : Hid (World.ownsRow _ _ _ _ _ _ _) := hO2v
              clear hg7 hO1x hO2x hO1v hO2v hnv hat B7 hO1w
              go_wp2_with fail
              go_roundw
              case rel => exact ⟨j + 1, by omega, by go_num, HO1w.out, HO2w.out, HB7.out⟩
              case measure => simp [intOf]; omega
          · have hjl2 : ¬ (j : Int) < (ps[k].es.length : Int) := by omega
            have HFA : Hid (filt iv ps[k].es j = ps[k].es.filter fun e => hasI iv e.key) := filt_all iv ps[k].es j (by omega)
            go_wp2_with fail
            go_roundw
            case rel =>
              refine ⟨k + 1, by omega, by go_num, ?_, HO2.out, HBQ.out⟩
              rw [List.take_succ_eq_append_getElem hlt, entsOf_app, entsOf_one, ← HFA.out]; exact HO1.out
            case measure => simp [intOf]; omega
      · obtain rfl : k = ps.length := by omega
        rw [List.take_length] at hO1 hO2
        have HO1 : Hid (OwnE _ _ _ _) := owns_mono hO1 XB.size
        have HO2 : Hid (World.ownsRow _ _ _ _ _ _ _) := owns_mono hO2 XB.size
        have HB : Hid (Below _ _ _) := XB.trans (hbel.mono XB.size)
        clear hO1 hO2 hbel
        go_wp2_with fail
        refine bodyPost_ret (v := .tuple #[u7, u8, .int .i64 0]) (by simp [results, Try.results19, go_sem]) rfl ⟨⟨_, _, rfl, by rw [← HPS.out]; exact HO1.out, by rw [← HPS.out, numsOf_len]; exact HO2.out⟩, HB.out⟩

end Go.Proofs.Ytnmpfooegnmknaa.Tr
