/-
  A contract of the document's answer to Pack.
-/
import Derived.Test.YtkmnofmhjoehialPack
import Derived.Test.YtkmnofmhjoehialRSize
import Derived.Deep.AppendLies
namespace Go.Proofs.Ytkmnofmhjoehial
open Go.RowKit

theorem seg_of_owns {w : World} {base n : Nat} {v : Value} {xs : List Value} {l : List Int} (h : w.ownsRow base 3 1 v n xs) (hn : n = l.length) (hx : xs = l.map (Value.int .i64)) : Seg w v l := by
  subst hn hx
  rcases h.2 with ⟨rfl, e⟩ | ⟨g, cap, cur, rfl, _, _, _, _, _, _⟩
  · exact .inl ⟨List.length_eq_zero_iff.1 e, none, 0, rfl⟩
  · refine .inr ⟨g, 0, cap, rfl, fun j hj => ?_⟩
    have := h.cells (g := g) rfl j (.int .i64 (l.getD j 0)) (by simp [hj])
    by_cases h0 : j = 0
    · subst h0; simpa [Addr.add] using this
    · simpa [Addr.add, h0] using this

theorem lies_owns {w : World} {base n e : Nat} {v : Value} {xs : List Value} (h : w.ownsRow base e 1 v n xs) : Lies w.heap.size v := by
  intro p k c hv hk
  subst hv
  exact (h.lt p.block rfl).2

theorem below_app {w W w1 wr : World} {v : Value} {n e : Nat} {xs : List Value} (hW : Below w.heap.size w W) (hg : W.grownBy w1 v.ownBlock) (hown : wr.ownsRow w.heap.size e 1 v n xs) : Below w.heap.size w w1 :=
  hW.grown hg hW.size (fun j hj => (hown.lt j hj).1)

/-- The widths of the first k fields, as values. -/
def wvals (l : List (Int × Int)) (k : Nat) : List Value := (l.take k).map (fun f => Value.int .i64 f.1)
/-- Bits, as values. -/
def bvals (bs : List Nat) : List Value := bs.map (fun x : Nat => Value.int .i64 x)
theorem bvals_snoc (bs : List Nat) (x : Nat) : bvals (bs ++ [x]) = bvals bs ++ [.int .i64 x] := by simp [bvals]

theorem owns_heap {w w' : World} {B e s n : Nat} {v : Value} {xs : List Value} (h : w.ownsRow B e s v n xs) (hh : w'.heap = w.heap) : w'.ownsRow B e s v n xs := by
  unfold World.ownsRow at h ⊢
  rw [hh]
  exact h
theorem drewN_heap (w : World) (q : Nat) : (w.drewN q).heap = w.heap := by
  induction q generalizing w with
  | zero => rfl
  | succ q ih => exact ih w.drew

theorem rw_next {w wr w1 : World} {v v' : Value} {k : Nat} {x : Int} {l : List (Int × Int)} {o o' : Obj} (hk : k < l.length) (hx : (l.getD k (0, 0)).1 = x)
    (hown : wr.ownsRow w.heap.size 3 1 v k (wvals l k)) (hbel : Below w.heap.size w wr)
    (hown' : w1.ownsRow w.heap.size 3 1 v' (k + 1) (wvals l k ++ [.int .i64 x])) (hgrow : ((wr.alloc o).alloc o').grownBy w1 v.ownBlock) :
    w1.ownsRow w.heap.size 3 1 v' (k + 1) (wvals l (k + 1)) ∧ Below w.heap.size w w1 := by
  refine ⟨?_, below_app ((hbel.alloc hbel.size o).alloc (by simp; have := hbel.size; omega) o') hgrow hown⟩
  unfold wvals at hown' ⊢
  rw [List.take_succ_eq_append_getElem hk, List.map_append]
  simp only [List.getD_eq_getElem?_getD, List.getElem?_eq_getElem hk, Option.getD_some] at hx
  rw [List.map_cons, List.map_nil, hx]
  exact hown'

theorem cell_al {wr : World} {o : Obj} {bf j : Nat} {x : Value} (h : wr.cell? ⟨bf, j, none⟩ = some x) : ((wr.alloc o).drew).cell? ⟨bf, j, none⟩ = some x :=
  ((((Below.refl wr.heap.size wr).alloc (Nat.le_refl _) o).drew).cell (p := ⟨bf, j, none⟩) (World.block_lt_of_cell? (w := wr) (h := h))).trans h

/-- The first i bytes of bits, as values. -/
def yvals (bs : List Nat) (i : Nat) : List Value := (List.range i).map (fun j => Value.int .u8 (Plain.byteOf (Plain.at0 bs) j : Nat))
theorem yvals_succ (bs : List Nat) (i : Nat) : yvals bs (i + 1) = yvals bs i ++ [.int .u8 (Plain.byteOf (Plain.at0 bs) i : Nat)] := by simp [yvals, List.range_succ]
theorem yvals_len (bs : List Nat) (i : Nat) : (yvals bs i).length = i := by simp [yvals]

theorem bvals_get (bs : List Nat) (j : Nat) (h : j < bs.length) : (bvals bs)[j]? = some (.int .i64 (Plain.at0 bs j : Nat)) := by
  simp [bvals, Plain.at0, h]

theorem own_bit {w : World} {B g n cap : Nat} {bs : List Nat} (h : w.ownsRow B 3 1 (.slice (some ⟨g, 0, none⟩) n cap) n (bvals bs)) (j : Nat) (hj : j < bs.length) :
    w.cell? ⟨g, j, none⟩ = some (.int .i64 (Plain.at0 bs j : Nat)) := by
  have := h.cells (g := g) rfl j _ (bvals_get bs j hj)
  by_cases h0 : j = 0
  · subst h0; simpa [Addr.add] using this
  · simpa [Addr.add, h0] using this

theorem segB_of_owns {w : World} {base n : Nat} {v : Value} {bs : List Nat} (h : w.ownsRow base 5 1 v n (yvals bs n)) : SegB w v (Plain.bytesOf bs n) := by
  rcases h.2 with ⟨rfl, e⟩ | ⟨g, cap, cur, rfl, _, _, _, _, _, _⟩
  · subst e; exact .inl ⟨rfl, none, 0, rfl⟩
  · refine .inr ⟨g, 0, cap, by rw [Plain.bytesOf_len], fun j hj => ?_⟩
    rw [Plain.bytesOf_len] at hj
    have := h.cells (g := g) rfl j (.int .u8 (Plain.byteOf (Plain.at0 bs) j : Nat)) (by simp [yvals, hj])
    rw [Plain.getD_bytesOf _ _ _ hj]
    by_cases h0 : j = 0
    · subst h0; simpa [Addr.add] using this
    · simpa [Addr.add, h0] using this

def lenV : Value → Nat
  | .slice _ n _ => n
  | _ => 0

/-- What a round of the innermost loop leaves. -/
theorem bits_next {w wi W w1 : World} {v : Value} {m i bf xn yn g cap B : Nat} {rb : List Nat} {x : Int} (hB : B = w.heap.size) (hi : i < xn) (hx : x = ((yn / 2 ^ (xn - 1 - i) % 2 : Nat) : Int))
    (hown : wi.ownsRow B 3 1 v m (bvals (rb ++ (Plain.fbits xn yn).take i))) (hW : Below B w W) (hbf : bf < W.heap.size) (hne : v.ownBlock ≠ some bf)
    (c0 : W.cell? ⟨bf, 0, none⟩ = some (.int .i64 xn)) (c1 : W.cell? ⟨bf, 1, none⟩ = some (.int .i64 yn))
    (hown' : w1.ownsRow B 3 1 (.slice (some ⟨g, 0, none⟩) (m + 1) cap) (m + 1) (bvals (rb ++ (Plain.fbits xn yn).take i) ++ [.int .i64 x])) (hgrow : W.grownBy w1 v.ownBlock) (hat : v.ownBlock = some g ∨ g = W.heap.size) :
    w1.ownsRow B 3 1 (.slice (some ⟨g, 0, none⟩) (m + 1) cap) (m + 1) (bvals (rb ++ (Plain.fbits xn yn).take (i + 1))) ∧ w1.cell? ⟨bf, 0, none⟩ = some (.int .i64 xn) ∧ w1.cell? ⟨bf, 1, none⟩ = some (.int .i64 yn) ∧
      (Value.slice (some ⟨g, 0, none⟩) (m + 1) cap).ownBlock ≠ some bf ∧ Below B w w1 ∧ bf < w1.heap.size := by
  subst hB
  refine ⟨?_, ?_, ?_, ?_, below_app hW hgrow hown, Nat.lt_of_lt_of_le hbf hgrow.size⟩
  · rw [Plain.fbits_succ xn yn i hi, ← List.append_assoc, bvals_snoc, ← hx]
    exact hown'
  · rw [hgrow.cell_far ⟨bf, 0, none⟩ hbf (fun e => hne e.symm)]; exact c0
  · rw [hgrow.cell_far ⟨bf, 1, none⟩ hbf (fun e => hne e.symm)]; exact c1
  · intro e
    have e' : g = bf := Option.some.inj e
    rcases hat with h | h
    · exact hne (by rw [h, e'])
    · omega

set_option maxHeartbeats 4000000 in
set_option maxRecDepth 100000 in
theorem rpack_some (b off cap : Nat) (l : List (Int × Int)) (hm : l.length * 16 ≤ 140737488351232) (w : World)
    (h : ∀ j, j < l.length → w.cell? ⟨b, off + j * 2, none⟩ = some (.int .i64 (l.getD j (0, 0)).1) ∧ w.cell? ⟨b, off + j * 2 + 1, none⟩ = some (.int .i64 (l.getD j (0, 0)).2))
    (hb : 0 < l.length → b < w.heap.size) :
    Calls Try.prog 30 #[.slice (some ⟨b, off, none⟩) l.length cap] w fun e w' => ∃ u, e = .returned (.tuple #[u, .int .i64 (Plain.packE l : Nat)]) ∧
      SegB w' u (Plain.packB l) ∧ Lies w'.heap.size u ∧ Below w.heap.size w w' := by
  obtain ⟨i0, hi, hz0, hz1, hz2⟩ := info_parts Try.infoInt
  have H := hid h
  clear h
  go_enter Try.func30, Try.ntmps30
  go_wp2
  go_loopw [4, 20] (fun v i wr => ∃ k : Nat, k ≤ l.length ∧ i = .int .i64 k ∧ wr.ownsRow w.heap.size 3 1 v k (wvals l k) ∧ Below w.heap.size w wr)
    (fun _ i _ => l.length - (intOf i).toNat)
  case atStart => exact ⟨0, Nat.zero_le _, rfl, World.ownsRow_nil _ _ _ _, Below.refl _ _⟩
  case round =>
    obtain ⟨k, hk, rfl, hown, hbel⟩ := hrel
    by_cases hlt : k < l.length
    · have g := H.out k hlt
      rw [← hbel.cell (p := ⟨b, off + k * 2, none⟩) (hb (by omega)), ← hbel.cell (p := ⟨b, off + k * 2 + 1, none⟩) (hb (by omega))] at g
      have g0 := g.1
      have g1 := g.2
      clear g
      have hlt' : (k : Int) < (l.length : Int) := by omega
      generalize hx : (l.getD k (0, 0)).1 = x at g0
      generalize hy : (l.getD k (0, 0)).2 = y at g1
      have HX := hid hx
      clear hx hy
      have hge := hbel.size
      go_wp2_with (first
        | (at_builtin; refine wpList_append_own _ rfl _ _ 22 rfl w.heap.size 3 i0 (.int .i64 0) 1 8 Try.underlying22 hi hz0 hz1 hz2 rfl (by decide) _ _ _ rfl ((hown.alloc _).alloc _) ⟨wr.heap.size + 1, 0, none⟩ 1 1 [.int .i64 x] rfl rfl ?c1 ?c2 ?c3 ?c4 ?c5 ?_)
        | go_in)
      case c1 =>
        intro j u hj
        match j, hj with
        | 0, hj => simp at hj; subst hj; simp [Addr.add]
      case c2 => intro u hu; simp at hu; subst hu; rfl
      case c3 => unfold maxLen; omega
      case c4 => omega
      case c5 => simp; omega
      intro v' w1 hown' hgrow _
      have R := hid (rw_next hlt HX.out hown hbel hown' hgrow)
      clear hown' hgrow hown hbel
      go_wp2
      go_roundw
      case rel => first | exact ⟨k + 1, by omega, by go_num, R.out.1, R.out.2⟩ | ((repeat apply Exists.intro); exact ⟨⟨k + 1, by omega, by go_num, R.out.1, R.out.2⟩, rfl⟩)
      case measure => simp [intOf]; omega
    · have ek : k = l.length := by omega
      subst ek
      have HSEG := hid (seg_of_owns (l := l.map Prod.fst) hown (by simp) (by simp [wvals, Function.comp_def]))
      have HBE := hid hbel
      clear hown hbel
      go_wp2_with fail
      refine (rsize_any _ _ (by rw [List.length_map]; omega) _ HSEG.out).mono ?_
      rintro e wx ⟨rfl, hx⟩
      have hy := hx.symm
      clear hx
      subst hy
      by_cases hz : Plain.szE (l.map Prod.fst) = 0
      · rw [hz]
        have hsz := Plain.szE_zero _ hz
        rw [List.length_map] at hsz
        have hlen : l.length ≤ 40 := hsz.1
        have HA := hid hsz.2.1
        have HN := hid hsz.2.2.1
        have HT := hid hsz.2.2.2
        have HZ := hid hz
        have hn300 := Plain.szN_le (l.map Prod.fst)
        clear hz hsz
        generalize hn : Plain.szN (l.map Prod.fst) = n at *
        have HNN := hid hn
        clear hn
        go_wp2
        go_loopw [9, 40] (fun v i wr => ∃ k : Nat, k ≤ l.length ∧ i = .int .i64 k ∧ wr.ownsRow w.heap.size 3 1 v (Plain.bitsN ((l.take k).map Prod.fst)) (bvals (Plain.rbits ((l.take k).map Plain.nat2))) ∧
            Below w.heap.size w wr ∧ (l.take k).all Plain.fitB = true)
          (fun _ i _ => l.length - (intOf i).toNat)
        case atStart => exact ⟨0, Nat.zero_le _, rfl, World.ownsRow_nil _ _ _ _, HBE.out, rfl⟩
        case round =>
          obtain ⟨wo, hwo⟩ : ∃ wo, wo = wr := ⟨_, rfl⟩
          subst hwo
          obtain ⟨k, hk, rfl, hown, hbel, hall⟩ := hrel
          by_cases hlt : k < l.length
          · have g := H.out k hlt
            rw [← hbel.cell (p := ⟨b, off + k * 2, none⟩) (hb (by omega)), ← hbel.cell (p := ⟨b, off + k * 2 + 1, none⟩) (hb (by omega))] at g
            have hok := Plain.pk_okw l k hlt HA.out
            have hbit := Plain.pk_bits l k hlt
            have hbs := Plain.pk_bits_succ l k hlt
            have g0 := g.1
            have g1 := g.2
            clear g
            have hlt' : (k : Int) < (l.length : Int) := by omega
            have hge := hbel.size
            have HOWN := hid hown
            have HBEL := hid hbel
            have HAL := hid hall
            clear hown hbel hall
            generalize hx : (l.getD k (0, 0)).1 = x at g0 hok hbit hbs
            generalize hy : (l.getD k (0, 0)).2 = y at g1
            obtain ⟨xn, rfl⟩ := Int.eq_ofNat_of_zero_le (show 0 ≤ x by omega)
            rw [Int.toNat_natCast] at hbit hbs
            have HX := hid hx
            have HY := hid hy
            have HBS := hid hbs
            clear hx hy hbs
            have hfit : Plain.bitsN ((l.take k).map Prod.fst) + xn ≤ 2400 := by have := HT.out; omega
            clear hbit
            generalize ha : Plain.bitsN ((l.take k).map Prod.fst) = a at hfit
            have HAA := hid ha
            clear ha
            have hxn : xn ≤ 60 := by omega
            clear hok
            cases cf : Plain.fitB ((xn : Int), y)
            · have CF := hid cf
              have hpr : l.getD k (0, 0) = ((xn : Int), y) := by rw [← HX.out, ← HY.out]
              have HF := hid (Plain.packE_over l HZ.out (Plain.all_no Plain.fitB l (0, 0) k hlt (by rw [hpr]; exact CF.out)))
              clear hpr cf
              by_cases hy0 : y < 0
              · have hd0 : decide (y < 0) = true := by simpa using hy0
                go_wp2
                go_quiet (fail)
                clear hd0
                go_wp2
                go_ret2
                exact ⟨_, by rw [HF.out.1]; rfl, by rw [HF.out.2]; exact SegB.nil _, lies_nil _ _ _, below_drewN (HBEL.out.alloc hge _) _⟩
              · obtain ⟨yn, rfl⟩ := Int.eq_ofNat_of_zero_le (show 0 ≤ y by omega)
                have hd0 : decide ((yn : Int) < 0) = false := by simp
                have hd1 : decide (wrap64 (2 ^ xn) ≤ (yn : Int)) = true := by
                  rw [Plain.wrap_pow60 xn hxn]
                  have e : ((2 : Int) ^ xn) = ((2 ^ xn : Nat) : Int) := by simp
                  have := CF.out
                  unfold Plain.fitB at this
                  simp only [Int.toNat_natCast, e] at this
                  rw [e]; simp at this ⊢; omega
                clear hy0
                go_wp2
                go_quiet (fail)
                clear hd0 hd1
                go_wp2
                go_ret2
                exact ⟨_, by rw [HF.out.1]; rfl, by rw [HF.out.2]; exact SegB.nil _, lies_nil _ _ _, below_drewN (HBEL.out.alloc hge _) _⟩
            · have hyn := Plain.fit_nat _ _ cf (by omega)
              obtain ⟨yn, rfl⟩ := Int.eq_ofNat_of_zero_le hyn.1
              rw [Int.toNat_natCast] at hyn
              have hyn2 := hyn.2.1
              rw [Int.toNat_natCast] at hyn2
              have hd0 : decide ((yn : Int) < 0) = false := by simp
              have hd1 : decide (wrap64 (2 ^ xn) ≤ (yn : Int)) = false := by
                rw [Plain.wrap_pow60 xn hxn]
                have e : ((2 : Int) ^ xn) = ((2 ^ xn : Nat) : Int) := by simp
                rw [e]; simp; omega
              have hyn3 := hyn.2.2
              have HYN := hid hyn2
              have CF := hid cf
              clear cf hyn hyn2
              go_wp2
              go_quiet (fail)
              clear hd0 hd1
              have hown1 : ((wo.alloc (.cells #[.int .i64 xn, .int .i64 yn] 56)).drewN nq).ownsRow w.heap.size 3 1 u9 (a + 0) (bvals (Plain.rbits ((l.take k).map Plain.nat2) ++ (Plain.fbits xn yn).take 0)) :=
                owns_heap (by have := HOWN.out; rw [HAA.out] at this; rw [List.take_zero, List.append_nil]; exact this.alloc _) (drewN_heap _ _)
              have hne1 : u9.ownBlock ≠ some wo.heap.size := fun e => by have := (HOWN.out.lt _ e).2; omega
              have HOWN1 := hid hown1
              have HNE1 := hid hne1
              clear hown1 hne1
              go_wp2
              go_loopw [9, 12] (fun v j wi => ∃ i : Nat, i ≤ xn ∧ j = .int .i64 ((i + 1 : Nat) : Int) ∧ wi.ownsRow w.heap.size 3 1 v (a + i) (bvals (Plain.rbits ((l.take k).map Plain.nat2) ++ (Plain.fbits xn yn).take i)) ∧
                  wi.cell? ⟨wo.heap.size, 0, none⟩ = some (.int .i64 xn) ∧ wi.cell? ⟨wo.heap.size, 1, none⟩ = some (.int .i64 yn) ∧ v.ownBlock ≠ some wo.heap.size ∧ Below w.heap.size w wi ∧ wo.heap.size < wi.heap.size)
                (fun _ j _ => xn + 1 - (intOf j).toNat)
              case atStart => exact ⟨0, Nat.zero_le _, rfl, HOWN1.out, by simp, by simp, HNE1.out, below_drewN (HBEL.out.alloc hge _) _, by simp⟩
              case round =>
                obtain ⟨i, hii, rfl, hown, c0, c1, hne, hbel, hbf⟩ := hrel
                generalize hc : i + 1 = c at *
                have HC := hid hc
                clear hc
                by_cases hlt2 : i < xn
                · have hcx : c ≤ xn := by have := HC.out; omega
                  obtain ⟨d, hd⟩ : ∃ d, d = xn - c := ⟨_, rfl⟩
                  have e1 : IntKind.i64.wrap ((xn : Int) - (c : Int)) = (d : Int) := by
                    have := Plain.wrap_nat d (by omega)
                    rw [← show ((d : Nat) : Int) = (xn : Int) - (c : Int) by omega]; exact this
                  have hcx' : (c : Int) ≤ (xn : Int) := by omega
                  have hd60 : d ≤ 60 := by omega
                  have HD := hid hd
                  clear hd
                  obtain ⟨P, hP⟩ : ∃ P, P = 2 ^ d := ⟨_, rfl⟩
                  obtain ⟨q, hq⟩ : ∃ q, q = yn / P := ⟨_, rfl⟩
                  obtain ⟨r, hr⟩ : ∃ r, r = q % 2 := ⟨_, rfl⟩
                  have hPp := Plain.pow60 d hd60
                  have hP0 : 0 < P := by rw [hP]; exact Nat.two_pow_pos d
                  rw [← hP] at hPp
                  have hPi : ((2 : Int) ^ d) = (P : Int) := by rw [hP]; simp
                  have f2 : IntKind.i64.wrap ((2 : Int) ^ d) = (P : Int) := by rw [hPi]; exact Plain.wrap_nat P (by omega)
                  have hqy : q ≤ yn := by rw [hq]; exact Nat.div_le_self _ _
                  have f3 : ((yn : Int)).tdiv (P : Int) = (q : Int) := by rw [Int.tdiv_eq_ediv_of_nonneg (by omega), hq]; simp
                  have f4 : IntKind.i64.wrap (q : Int) = (q : Int) := Plain.wrap_nat q (by omega)
                  have f5 : ((q : Int)).tmod 2 = (r : Int) := by rw [Int.tmod_eq_emod_of_nonneg (by omega), hr]; simp
                  have f6 : IntKind.i64.wrap (r : Int) = (r : Int) := Plain.wrap_nat r (by omega)
                  have f7 : (P : Int) ≠ 0 := by omega
                  have f8 : ¬ P = 0 := by omega
                  have HP := hid hP
                  have HQ := hid hq
                  have HRR := hid hr
                  clear hP hq hr hPi hPp hP0 hqy
                  have HOWN2 := hid hown
                  have HNE2 := hid hne
                  have HBEL2 := hid hbel
                  clear hne hbel
                  go_wp2
                  go_region_held3 (fun w' => w'.cell? ⟨wo.heap.size, 0, none⟩ = some (.int .i64 xn) ∧ w'.cell? ⟨wo.heap.size, 1, none⟩ = some (.int .i64 yn))
                    (first
                      | go_keep
                      | (go_split_ands
                         refine ⟨?_, ?_⟩
                         · (rw [hgrow.cell_far _ (by simp; omega) (fun e => HNE2.out e.symm)]; assumption)
                         · (rw [hgrow.cell_far _ (by simp; omega) (fun e => HNE2.out e.symm)]; assumption)))
                    ((refine step_append_lies _ (by rfl) _ _ _ (by rfl) w.heap.size 3 i0 _ 1 8 Try.underlying22 hi hz0 hz1 hz2 rfl (by omega) u9 (a + i) _ (by rfl) ((HOWN2.out.alloc _).drew)
                        ⟨wr.heap.size, 0, none⟩ 1 1 [.int .i64 r] (by rfl) (by rfl) (World.news_of_block (cs := #[.int .i64 r]) (t := 3) (fr := (0, 0)) (heap_alloc_new wr _)) (by simp [Value.oneCell'])
                        (by omega) (by unfold maxLen; omega) (by omega) (by simp; have := HBEL2.out.size; omega) (wr.heap.size + 1) (by simp) ?_; intro g gcap w1 hown1 hgrow hat hltg))
                  clear f2 f3 f4 f5 f6 f7 f8 e1
                  have R := hid (bits_next rfl hlt2 (by rw [HRR.out, HQ.out, HP.out, HD.out, ← HC.out, show xn - (i + 1) = xn - 1 - i by omega]) HOWN2.out ((HBEL2.out.alloc HBEL2.out.size _).drew) (by simp; omega) HNE2.out (cell_al c0) (cell_al c1) hown1 hgrow (by simpa using hat))
                  clear hown1 hgrow hat
                  go_wp2
                  go_roundw
                  case rel => exact ⟨i + 1, by omega, by have := HC.out; go_num, R.out.1, R.out.2.1, R.out.2.2.1, R.out.2.2.2.1, R.out.2.2.2.2.1, R.out.2.2.2.2.2⟩
                  case measure => simp [intOf]; have := HC.out; omega
                · have ei : i = xn := by omega
                  have HR3 := hid (show wr.ownsRow w.heap.size 3 1 u9 (Plain.bitsN ((l.take (k + 1)).map Prod.fst)) (bvals (Plain.rbits ((l.take (k + 1)).map Plain.nat2))) by
                    rw [HBS.out, HAA.out, Plain.pk_take l k hlt, HX.out, HY.out, Int.toNat_natCast, Int.toNat_natCast]
                    rw [ei, List.take_of_length_le (i := xn) (l := Plain.fbits xn yn) (by rw [Plain.fbits_len]; exact Nat.le_refl _)] at hown
                    exact hown)
                  have HB3 := hid hbel
                  have hcx' : (xn : Int) < (c : Int) := by have := HC.out; omega
                  have hal := Plain.all_take Plain.fitB l (0, 0) k hlt HAL.out (by rw [show l.getD k (0, 0) = ((xn : Int), (yn : Int)) by rw [← HX.out, ← HY.out]]; exact CF.out)
                  have HAL3 := hid hal
                  clear hown hbel hal hne
                  go_wp2
                  go_roundw
                  case rel => first | exact ⟨k + 1, by omega, by go_num, HR3.out, HB3.out, HAL3.out⟩ | ((repeat apply Exists.intro); exact ⟨⟨k + 1, by omega, by go_num, HR3.out, HB3.out, HAL3.out⟩, rfl⟩)
                  case measure => simp [intOf]; omega
          · have ek : k = l.length := by omega
            subst ek
            rw [List.take_length] at hown hall
            have HF := hid (Plain.packE_ok l HZ.out hall)
            have HLB := hid (Plain.pk_len l)
            have hT := HT.out
            have hTn : Plain.bitsN (l.map Prod.fst) ≤ 8 * n := by have := HN.out; have := HNN.out; omega
            generalize ht : Plain.bitsN (l.map Prod.fst) = T at *
            have HTT := hid ht
            clear ht
            obtain ⟨ad, cp, rfl⟩ : ∃ ad cp, u9 = .slice ad T cp := by
              rcases hown.2 with ⟨e1, e2⟩ | ⟨g, c, _, e1, _⟩
              · exact ⟨none, 0, by rw [e1, e2]⟩
              · exact ⟨_, _, e1⟩
            have HOWN := hid hown
            have HBEL := hid hbel
            clear hown hbel hall
            go_wp2
            go_loopw [9] (fun v wr => ∃ m ad cp, m + T ≤ 8 * n ∧ v = .slice ad (T + m) cp ∧ wr.ownsRow w.heap.size 3 1 (.slice ad (T + m) cp) (T + m) (bvals (Plain.rbits (l.map Plain.nat2) ++ List.replicate m 0)) ∧ Below w.heap.size w wr)
              (fun v _ => 8 * n - lenV v)
            case atStart => exact ⟨0, ad, cp, by omega, rfl, by rw [List.replicate_zero, List.append_nil]; exact HOWN.out, HBEL.out⟩
            case round =>
              obtain ⟨m, ad, cp, hm8, rfl, hown, hbel⟩ := hrel
              have hge := hbel.size
              by_cases hlt : T + m < 8 * n
              · have hlt' : (T : Int) + (m : Int) < 8 * (n : Int) := by omega
                go_wp2_with (first
                  | (at_builtin; refine wpList_append_lies _ rfl _ _ 22 rfl w.heap.size 3 i0 (.int .i64 0) 1 8 Try.underlying22 hi hz0 hz1 hz2 rfl (by decide) _ _ _ rfl (hown.alloc _) ⟨wr.heap.size, 0, none⟩ 1 1 [.int .i64 0] rfl rfl ?d1 ?d2 (by decide) ?d3 ?d4 ?d5 _ rfl ?_)
                  | go_in)
                case d1 =>
                  intro j u hj
                  match j, hj with
                  | 0, hj => simp at hj; subst hj; simp [Addr.add]
                case d2 => intro u hu; simp at hu; subst hu; rfl
                case d3 => unfold maxLen; omega
                case d4 => omega
                case d5 => simp; omega
                intro g gcap w1 hown' hgrow _ _
                have R := hid (show w1.ownsRow w.heap.size 3 1 (.slice (some ⟨g, 0, none⟩) (T + m + 1) gcap) (T + m + 1) (bvals (Plain.rbits (l.map Plain.nat2) ++ List.replicate (m + 1) 0)) ∧ Below w.heap.size w w1 from
                  ⟨by rw [List.replicate_succ', ← List.append_assoc, bvals_snoc]; exact hown', below_app (hbel.alloc hge _) hgrow hown⟩)
                clear hown' hgrow hown hbel
                go_wp2
                go_roundw
                case rel => exact ⟨m + 1, _, _, by omega, rfl, R.out.1, R.out.2⟩
                case measure => simp [lenV]; omega
              · have hTm : T + m = 8 * n := by omega
                rw [hTm] at hown ⊢
                have HAT := hid (Plain.at0_zeros (Plain.rbits (l.map Plain.nat2)) m)
                have hbl : (Plain.rbits (l.map Plain.nat2) ++ List.replicate m 0).length = 8 * n := by rw [List.length_append, List.length_replicate, HLB.out]; omega
                have hb2 : ∀ p, Plain.at0 (Plain.rbits (l.map Plain.nat2)) p < 2 := Plain.at0_lt _ (Plain.rbits_lt _)
                generalize hbb : Plain.rbits (l.map Plain.nat2) ++ List.replicate m 0 = bb at hown hbl HAT
                have HBB := hid hbl
                have HB2 := hid hb2
                clear hbb hbl hb2 hlt hm8 hTm
                obtain ⟨wo, hwo⟩ : ∃ wo, wo = wr := ⟨_, rfl⟩
                subst hwo
                by_cases hn0 : n = 0
                · subst hn0
                  have HBEL := hid hbel
                  clear hown hbel
                  go_wp2
                  refine wp_loop_rounds 1 ?_
                  rw [rounds_succ]
                  go_wp2
                  go_ret2
                  exact ⟨_, by rw [HF.out.1]; rfl, by rw [HF.out.2, HNN.out]; exact SegB.nil _, lies_nil _ _ _, HBEL.out⟩
                · obtain ⟨g, cp', e, _, hglt⟩ := hown.form (by omega)
                  injection e with e1 _ _
                  subst e1
                  have hcap : 8 * n ≤ cp := by
                    rcases hown.2 with ⟨e1, _⟩ | ⟨_, _, _, e1, _, _, e2, _⟩
                    · cases e1
                    · injection e1 with _ _ e3; omega
                  have HOWN := hid hown
                  have HBEL := hid hbel
                  clear hown hbel
                  go_wp2
                  go_loopw [13, 14] (fun v i wr => ∃ t : Nat, t ≤ n ∧ i = .int .i64 t ∧ wr.ownsRow w.heap.size 5 1 v t (yvals (Plain.rbits (l.map Plain.nat2)) t) ∧
                      wr.ownsRow w.heap.size 3 1 (.slice (some ⟨g, 0, none⟩) (8 * n) cp) (8 * n) (bvals bb) ∧ v.ownBlock ≠ some g ∧ Below w.heap.size w wr)
                    (fun _ i _ => n - (intOf i).toNat)
                  case atStart => exact ⟨0, Nat.zero_le _, rfl, World.ownsRow_nil _ _ _ _, HOWN.out, by simp [Value.ownBlock], HBEL.out⟩
                  case round =>
                    obtain ⟨t, ht, rfl, hout, hbits, hne, hbel⟩ := hrel
                    by_cases hlt : t < n
                    · have hlt' : (t : Int) < (n : Int) := by omega
                      have hge := hbel.size
                      have hcap' : 8 * (t : Int) + 8 ≤ (cp : Int) := by omega
                      have HCELL := hid (fun s (hs : s < 8) => own_bit hbits (8 * t + s) (by rw [HBB.out]; omega))
                      have HOUT := hid hout
                      have HBITS := hid hbits
                      have HNE := hid hne
                      have HBEL2 := hid hbel
                      clear hout hbits hne hbel
                      go_wp2
                      go_loop [15, 95] (fun x j => ∃ s : Nat, s ≤ 8 ∧ j = .int .i64 s ∧ x = .int .i64 (Plain.num (Plain.at0 bb) (8 * t) s : Nat)) (fun _ j => 8 - (intOf j).toNat)
                      case atStart => exact ⟨0, by omega, rfl, rfl⟩
                      case round =>
                        obtain ⟨s, hs, rfl, rfl⟩ := hrel
                        have hX : Plain.num (Plain.at0 bb) (8 * t) s < 256 := by
                          have h1 := Plain.num_lt (Plain.at0 bb) (by rw [HAT.out]; exact HB2.out) (8 * t) s
                          have h2 : 2 ^ s ≤ 2 ^ 8 := Nat.pow_le_pow_right (by decide) hs
                          omega
                        by_cases hs8 : s < 8
                        · have hc := HCELL.out s hs8
                          have hst : Plain.num (Plain.at0 bb) (8 * t) (s + 1) = 2 * Plain.num (Plain.at0 bb) (8 * t) s + Plain.at0 bb (8 * t + s) := rfl
                          have hy2 : Plain.at0 bb (8 * t + s) < 2 := by rw [HAT.out]; exact HB2.out _
                          generalize Plain.at0 bb (8 * t + s) = y at hc hst hy2
                          have HST := hid hst
                          clear hst
                          generalize hX' : Plain.num (Plain.at0 bb) (8 * t) s = X at hX
                          have HXX := hid hX'
                          clear hX'
                          go_wp2
                          go_round
                          case rel => exact ⟨s + 1, by omega, by go_num, by rw [HST.out, HXX.out]; go_num⟩
                          case measure => simp [intOf]; omega
                        · have e8 : s = 8 := by omega
                          subst e8
                          have hX8 := Plain.byteOf_num (Plain.at0 bb) t
                          rw [HAT.out] at hX8
                          rw [HAT.out] at hX ⊢
                          rw [← hX8] at hX ⊢
                          clear hX8
                          generalize hX' : Plain.byteOf (Plain.at0 (Plain.rbits (l.map Plain.nat2))) t = X at hX
                          have HXX := hid hX'
                          clear hX'
                          obtain ⟨i1, hi1, hy0, hy1, hy2⟩ := info_parts Try.infoByte
                          go_wp2_with (first
                            | (at_builtin; refine wpList_append_lies _ rfl _ _ 26 rfl w.heap.size 5 i1 (.int .u8 0) 1 1 Try.underlying26 hi1 hy0 hy1 hy2 rfl (by decide) _ _ _ rfl (HOUT.out.alloc _) ⟨wr.heap.size, 0, none⟩ 1 1 [.int .u8 X] rfl rfl ?k1 ?k2 (by decide) ?k3 ?k4 ?k5 _ rfl ?_)
                            | go_in)
                          case k2 => rfl
                          case k3 => unfold maxLen; omega
                          case k4 => omega
                          case k5 => omega
                          intro g1 c1 w1 hown' hgrow hat _
                          have hgl := (World.ownsRow.lt HBITS.out g rfl).2
                          have R := hid (show w1.ownsRow w.heap.size 5 1 (.slice (some ⟨g1, 0, none⟩) (t + 1) c1) (t + 1) (yvals (Plain.rbits (l.map Plain.nat2)) (t + 1)) ∧
                              w1.ownsRow w.heap.size 3 1 (.slice (some ⟨g, 0, none⟩) (8 * n) cp) (8 * n) (bvals bb) ∧ (Value.slice (some ⟨g1, 0, none⟩) (t + 1) c1).ownBlock ≠ some g ∧ Below w.heap.size w w1 from
                            ⟨by rw [yvals_succ, HXX.out]; exact hown', (HBITS.out.alloc _).kept hgrow (.inr (fun e => HNE.out e.symm)),
                              fun e => by
                                have e' : g1 = g := Option.some.inj e
                                rcases hat with h | h
                                · exact HNE.out (by rw [h, e'])
                                · omega, below_app (HBEL2.out.alloc hge _) hgrow HOUT.out⟩)
                          clear hown' hgrow hat hgl
                          go_wp2
                          go_roundw
                          case rel => first | exact ⟨t + 1, by omega, by go_num, R.out.1, R.out.2.1, R.out.2.2.1, R.out.2.2.2⟩ | ((repeat apply Exists.intro); exact ⟨⟨t + 1, by omega, by go_num, R.out.1, R.out.2.1, R.out.2.2.1, R.out.2.2.2⟩, rfl⟩)
                          case measure => simp [intOf]; omega
                    · have et : t = n := by omega
                      subst et
                      have HOUT := hid hout
                      have HBEL2 := hid hbel
                      clear hout hbits hne hbel
                      go_wp2
                      go_ret2
                      exact ⟨_, by rw [HF.out.1]; rfl, by rw [HF.out.2, HNN.out]; exact segB_of_owns HOUT.out, lies_owns HOUT.out, HBEL2.out⟩
      · have HP := hid (Plain.packE_bad l hz)
        have hne : ((Plain.szE (l.map Prod.fst) : Int) != 0) = true := by rw [bne_iff_ne]; omega
        clear hz
        generalize Plain.szE (l.map Prod.fst) = z at *
        generalize Plain.szN (l.map Prod.fst) = z' at *
        go_wp2
        go_ret2
        exact ⟨_, by rw [HP.out.1]; rfl, by rw [HP.out.2]; exact SegB.nil _, lies_nil _ _ _, HBE.out⟩
set_option maxHeartbeats 1000000 in
theorem rpack_nil (p : Option Addr) (cap : Nat) (w : World) :
    Calls Try.prog 30 #[.slice p 0 cap] w fun e w' => e = .returned (.tuple #[.slice none 0 0, .int .i64 0]) ∧ w' = w := by
  go_enter Try.func30, Try.ntmps30
  go_wp2
  refine wp_loop_rounds 1 ?_
  rw [rounds_succ]
  go_wp2_with fail
  refine (rsize_nil _ _ _).mono ?_
  rintro e wx ⟨rfl, hx⟩
  have hy := hx.symm
  clear hx
  subst hy
  rw [show Plain.szN [] = 0 from rfl, show Plain.szE [] = 0 from rfl]
  go_wp2
  refine wp_loop_rounds 1 ?_
  rw [rounds_succ]
  go_wp2
  refine wp_loop_rounds 1 ?_
  rw [rounds_succ]
  go_wp2
  refine wp_loop_rounds 1 ?_
  rw [rounds_succ]
  go_wp2
  go_ret2
  exact ⟨rfl, rfl⟩

/-- The document's answer to Pack at whatever fields. -/
theorem rpack_any (v : Value) (l : List (Int × Int)) (hm : l.length * 16 ≤ 140737488351232) (w : World) (h : SegF w v l) (hv : Lies w.heap.size v) :
    Calls Try.prog 30 #[v] w fun e w' => ∃ u, e = .returned (.tuple #[u, .int .i64 (Plain.packE l : Nat)]) ∧ SegB w' u (Plain.packB l) ∧ Lies w'.heap.size u ∧ Below w.heap.size w w' := by
  rcases h with ⟨rfl, p, c, rfl⟩ | ⟨b, o, c, rfl, g⟩
  · refine (rpack_nil p c w).mono ?_
    rintro e w' ⟨rfl, rfl⟩
    exact ⟨_, rfl, .inl ⟨rfl, _, _, rfl⟩, lies_nil _ _ _, Below.refl _ _⟩
  · exact rpack_some b o c l hm w g (fun hp => hv _ _ _ rfl hp)
end Go.Proofs.Ytkmnofmhjoehial
