/-
  Goroutines among others: part 21 of what the law's own text rests on.
-/
import Derived.Test.YtcobehkadhcjiaaCb19
/-
  crew.mergePairs, whole.
-/
namespace Go.Proofs.Ytcobehkadhcjiaa
open Go Go.Conc Go.RowKit Go.Sort Go.Shelf

noncomputable def ops0 : Array Oper := opsC (seqL body30)
noncomputable def ops1b : Array Oper := opsC (seqL (seqR body30))
noncomputable def ops2b : Array Oper := opsC (seqL (seqL (seqR (seqR body30))))
noncomputable def ops8 : Array Oper := opsC (seqL tail2)
noncomputable def ops9 : Array Oper := opsC (seqL (seqR tail2))
noncomputable def ops10 : Array Oper := opsC (seqL (seqL (seqR (seqR tail2))))
theorem body30_is : body30 = .seq (.region 0 ops0 false) (.seq (.region 1 ops1b false) (.seq (.seq (.region 2 ops2b false) loop1) tail2)) := rfl
theorem tail2_is : tail2 = .seq (.region 8 ops8 false) (.seq (.region 9 ops9 false) (.seq (.seq (.region 10 ops10 false) loop2) (.seq code17 .ret))) := rfl
theorem loop2_is : loop2 = .block 2 (.loop round2) := rfl
theorem ops0_size : ops0.size = 2 := by kernel_rfl
theorem ops1b_size : ops1b.size = 1 := by kernel_rfl
theorem ops2b_size : ops2b.size = 1 := by kernel_rfl
theorem ops8_size : ops8.size = 1 := by kernel_rfl
theorem ops9_size : ops9.size = 1 := by kernel_rfl
theorem ops10_size : ops10.size = 3 := by kernel_rfl

variable [Shift]
theorem tail2_mi (hP : OkP Try.prog S0 V0) {post : Value → World → Prop} {k : List Item} {cs : List Frame} {B b off n cap : Nat} {ls : List (List Plain.En)} (hn : n ≤ 200) (hn2 : 2 ≤ n) (hcap : n ≤ cap)
    (t : Array Value) (w : World) (chs : List Nat) (ph : Option World) (v : Value) (h : St1 B b off n cap ls t w chs ph v) (hc : n = 2 * chs.length ∨ n = 2 * chs.length + 1)
    (K : ∀ (t' : Array Value) (w' : World) (g c' : Nat), t'.size = 61 → t'[2]? = some (.slice (some ⟨g, 0, none⟩) (rdL ls n).length c') → t'[3]? = some (.int .i64 (rdE ls n)) → LsB w'.heap.size w' g 0 (rdL ls n).length (rdL ls n) → (rdL ls n).length ≤ c' → KeepB B w w' → Ex B (ph.getD w) w' →
      MI Try.prog S0 V0 (.main post) ⟨none, none, []⟩ (bareR 30 t') [] [] cs w') :
    MI Try.prog S0 V0 (.main post) ⟨ph, none, prs ls 0 chs⟩ (bare 30 t) [] (.code tail2 :: k) cs w := by
  have hm1 : 1 ≤ chs.length := by omega
  obtain ⟨w0, rfl⟩ : ∃ w0, ph = some w0 := by
    cases ph with
    | some w0 => exact ⟨w0, rfl⟩
    | none => have := h.np rfl; subst this; simp at hm1
  obtain ⟨gw, cw, rfl, _, _, _, _⟩ := owns_head h.row hm1
  have hl : LsB B w b off n ls := h.fl.keep h.fk
  have hS : Sl t 61 [(0, .slice (some ⟨b, off, none⟩) n cap), (4, .slice (some ⟨gw, 0, none⟩) chs.length cw)] := ⟨h.z, fun p hp => by
    simp only [List.mem_cons, List.not_mem_nil, or_false] at hp
    rcases hp with rfl | rfl
    · exact h.t0
    · exact h.t4⟩
  rw [tail2_is]
  refine MI.seq (MI.reg (r := [0]) (by rw [ops8_size]; rfl) ?_)
  refine MI.cst hS (o := ops8[0]'(by rw [ops8_size]; decide)) 7 (.slice none 0 0) rfl (.inr rfl) rfl rfl (by omega) (by rfl) fun t1 U1 hS1 => MI.regE ?_
  refine MI.seq (MI.reg (r := [0]) (by rw [ops9_size]; rfl) ?_)
  refine MI.cst hS1 (o := ops9[0]'(by rw [ops9_size]; decide)) 8 (.slice none 0 0) rfl (.inr rfl) rfl rfl (by omega) (by rfl) fun t2 U2 hS2 => MI.regE ?_
  refine MI.seq (MI.seq (MI.reg (r := [0, 1, 2]) (by rw [ops10_size]; rfl) ?_))
  refine MI.mv hS2 (o := ops10[0]'(by rw [ops10_size]; decide)) 4 33 (.slice (some ⟨gw, 0, none⟩) chs.length cw) rfl (.inl rfl) rfl rfl (by omega) (by simp [setS]) fun t3 U3 hS3 => ?_
  refine MI.vl hS3 (o := ops10[1]'(by rw [ops10_size]; decide)) 34 (.int .i64 chs.length) rfl rfl rfl (by omega) (by kernel_rfl) (fun T => run_len (x := .tmp 33) (ty := 94) (el := 95) rfl Try.underlying94 (some ⟨gw, 0, none⟩) chs.length cw (hS3.ev (by simp [setS]))) fun t4 U4 hS4 => ?_
  refine MI.cst hS4 (o := ops10[2]'(by rw [ops10_size]; decide)) 35 (.int .i64 0) rfl (.inl rfl) rfl rfl (by omega) (by rfl) fun t5 U5 hS5 => MI.regE ?_
  rw [loop2_is]
  refine MI.ctl (k1 := .code (.loop round2) :: .inBlock 2 :: .code (.seq code17 .ret) :: k) (fun _ _ _ _ _ => stepG_block) ?_
  refine MI.ctl (k1 := .code round2 :: .inLoop round2 :: .inBlock 2 :: .code (.seq code17 .ret) :: k) (fun _ _ _ _ _ => stepG_loop) ?_
  obtain ⟨wa, hwa⟩ : ∃ wa, wa = onT (onT (onT (onT (onT w U1) U2) U3) U4) U5 := ⟨_, rfl⟩
  have ka : KeepB B w wa := by rw [hwa]; exact KeepB.onT B w U5
  have ha : wa.heap = w.heap := by rw [hwa]; rfl
  rw [← hwa]
  clear hwa
  have e : (⟨some w0, none, prs ls 0 chs⟩ : Sg) = ⟨phL w0 (prs ls 0 chs), none, prs ls 0 chs⟩ := by
    cases chs with
    | nil => simp at hm1
    | cons _ _ => rfl
  rw [e]
  have rW : wa.ownsRow B 95 1 (.slice (some ⟨gw, 0, none⟩) chs.length cw) chs.length (chv chs) := owns_old h.row fun x _ => by rw [ha]
  refine loop2_mi (B := B) (m := chs.length) (chs := chs) h.fs (by omega) (.slice (some ⟨b, off, none⟩) n cap) (.slice (some ⟨gw, 0, none⟩) chs.length cw) chs t5 wa (.slice none 0 0) (.slice none 0 0) 0 [] rfl rfl (Nat.zero_le _) (hS5.sub (by simp [setS, L2]))
    ⟨by rw [ha]; exact h.size, rfl, rW, World.ownsRow_nil _ _ _ _, World.ownsRow_nil _ _ _ _, fun i hi => absurd hi (Nat.not_lt_zero _)⟩ (fun x hx => by rw [ha]; exact h.fk.uf x hx) (fun e => by rw [e] at hm1; simp at hm1) fun t6 w6 fv cv rs hS6 h6 k6 x6 => ?_
  exact end17_mi hP (by omega) hc hm1 hcap t6 w6 _ fv cv rs hS6 h6 ((hl.keep ka).keep k6) fun t7 w7 g c' z7 e2 e3 l7 c7 k7 x7 => K t7 w7 g c' z7 e2 e3 l7 c7 ((ka.trans k6).trans k7) (x6.trans x7)

/-- All blocks are as they were. -/
structure Kx (w w1 : World) : Prop where
  size : w.heap.size ≤ w1.heap.size
  block : Ex w.heap.size w w1
omit [Shift] in
theorem Kx.refl (w : World) : Kx w w := ⟨Nat.le_refl _, Ex.refl _ _⟩
omit [Shift] in
theorem Kx.trans {a b c : World} (h : Kx a b) (k : Kx b c) : Kx a c := ⟨Nat.le_trans h.size k.size, fun x hx => (k.block x (Nat.lt_of_lt_of_le hx h.size)).trans (h.block x hx)⟩
omit [Shift] in
theorem Kx.heap {w w1 : World} (h : w1.heap = w.heap) : Kx w w1 := ⟨by rw [h]; exact Nat.le_refl _, fun x _ => by rw [h]⟩
omit [Shift] in
theorem Kx.onT (w : World) (X : Tape') : Kx w (onT w X) := .heap rfl
omit [Shift] in
theorem Kx.below {w w1 : World} (h : Below w.heap.size w w1) : Kx w w1 := ⟨h.size, h.block⟩
omit [Shift] in
theorem Kx.k {w w1 : World} (h : Kx w w1) : Keeps w w1 := .of_old h.size h.block

theorem pairs_mi (hP : OkP Try.prog S0 V0) {post : Value → World → Prop} {cs : List Frame} {b off n cap : Nat} {ls : List (List Plain.En)} (hn : n ≤ 200) (hn2 : 2 ≤ n) (hcap : n ≤ cap) (hls : ∀ j, (ls.getD j []).length ≤ 9223372036854775807)
    (t : Array Value) (w : World) (hz : t.size = 61) (h0 : t[0]? = some (.slice (some ⟨b, off, none⟩) n cap)) (hl : LsB w.heap.size w b off n ls)
    (K : ∀ (t' : Array Value) (w' : World) (g c' : Nat), t'.size = 61 → t'[2]? = some (.slice (some ⟨g, 0, none⟩) (rdL ls n).length c') → t'[3]? = some (.int .i64 (rdE ls n)) → LsB w'.heap.size w' g 0 (rdL ls n).length (rdL ls n) → (rdL ls n).length ≤ c' → Kx w w' →
      MI Try.prog S0 V0 (.main post) ⟨none, none, []⟩ (bareR 30 t') [] [] cs w') :
    MI Try.prog S0 V0 (.main post) ⟨none, none, []⟩ (bare 30 t) [] [.code body30] cs w := by
  have hS : Sl t 61 [(0, .slice (some ⟨b, off, none⟩) n cap)] := ⟨hz, fun p hp => by
    simp only [List.mem_cons, List.not_mem_nil, or_false] at hp
    subst hp
    exact h0⟩
  rw [body30_is]
  refine MI.seq (MI.reg (r := [0, 1]) (by rw [ops0_size]; rfl) ?_)
  refine MI.cst hS (o := ops0[0]'(by rw [ops0_size]; decide)) 2 (.slice none 0 0) rfl (.inr rfl) rfl rfl (by omega) (by rfl) fun t1 U1 hS1 => ?_
  refine MI.cst hS1 (o := ops0[1]'(by rw [ops0_size]; decide)) 3 (.int .i64 0) rfl (.inr rfl) rfl rfl (by omega) (by rfl) fun t2 U2 hS2 => MI.regE ?_
  refine MI.seq (MI.reg (r := [0]) (by rw [ops1b_size]; rfl) ?_)
  refine MI.cst hS2 (o := ops1b[0]'(by rw [ops1b_size]; decide)) 4 (.slice none 0 0) rfl (.inr rfl) rfl rfl (by omega) (by rfl) fun t3 U3 hS3 => MI.regE ?_
  refine MI.seq (MI.seq (MI.reg (r := [0]) (by rw [ops2b_size]; rfl) ?_))
  refine MI.cst hS3 (o := ops2b[0]'(by rw [ops2b_size]; decide)) 5 (.int .i64 1) rfl (.inr rfl) rfl rfl (by omega) (by rfl) fun t4 U4 hS4 => MI.regE ?_
  rw [loop1_is]
  refine MI.ctl (k1 := .code (.loop round1) :: .inBlock 0 :: .code tail2 :: []) (fun _ _ _ _ _ => stepG_block) ?_
  refine MI.ctl (k1 := .code round1 :: .inLoop round1 :: .inBlock 0 :: .code tail2 :: []) (fun _ _ _ _ _ => stepG_loop) ?_
  obtain ⟨wa, hwa⟩ : ∃ wa, wa = onT (onT (onT (onT w U1) U2) U3) U4 := ⟨_, rfl⟩
  have ka : KeepB w.heap.size w wa := by rw [hwa]; exact KeepB.onT _ w U4
  have ha : wa.heap = w.heap := by rw [hwa]; rfl
  rw [← hwa]
  clear hwa
  refine loop1_mi (B := w.heap.size) (b := b) (off := off) (cap := cap) (ls := ls) hP hn hls (n / 2) t4 wa [] none (.slice none 0 0) ⟨hS4.size, hS4.get (by simp [setS]), hS4.get (by simp [setS]), World.ownsRow_nil _ _ _ _, by rw [ha]; exact Nat.le_refl _, by show wa.heap.size = _; rw [ha], KeepB.refl _ _, hl.keep ka, fun _ => rfl⟩
    (hS4.get (by simp [setS])) (by simp; omega) fun t5 w5 chs ph v h5 k5 x5 hc => ?_
  refine tail2_mi hP hn hn2 hcap t5 w5 chs ph v h5 hc fun t6 w6 g c' z6 e2 e3 l6 c6 k6 x6 => ?_
  have kk := (ka.trans k5).trans k6
  exact K t6 w6 g c' z6 e2 e3 l6 c6 ⟨kk.size, ((show Ex w.heap.size w wa from fun x _ => by rw [ha]).trans x5).trans x6⟩
end Go.Proofs.Ytcobehkadhcjiaa

/-
  crew.MergeAll: whether each list may be: slices.ContainsFunc over lists of entries.
-/
namespace Go.Proofs.Ytcobehkadhcjiaa
open Go Go.Conc Go.RowKit Go.Sort Go.Shelf

namespace Plain
def idxL (p : List En → Bool) (l : List (List En)) : Int := if l.findIdx p < l.length then (l.findIdx p : Nat) else -1
theorem getD_lt {l : List (List En)} {i : Nat} (h : i < l.length) : l.getD i [] = l[i] := by simp [h]
theorem idxL_hit {p : List En → Bool} {l : List (List En)} {k : Nat} (hk : k < l.length) (h : p (l.getD k []) = true) (ha : ∀ j, j < k → p (l.getD j []) = false) : idxL p l = k := by
  have e : l.findIdx p = k := by
    rw [List.findIdx_eq hk]
    rw [getD_lt hk] at h
    refine ⟨h, fun j hj => ?_⟩
    have := ha j hj
    rw [getD_lt (by omega)] at this
    exact this
  unfold idxL
  rw [e, if_pos hk]
theorem idxL_miss {p : List En → Bool} {l : List (List En)} (ha : ∀ j, j < l.length → p (l.getD j []) = false) : idxL p l = -1 := by
  have e : l.findIdx p = l.length := List.findIdx_eq_length.2 fun x hx => by
    obtain ⟨j, hj, rfl⟩ := List.getElem_of_mem hx
    have := ha j hj
    rw [getD_lt hj] at this
    exact this
  unfold idxL
  rw [e, if_neg (by omega)]
theorem idxL_any (p : List En → Bool) (l : List (List En)) : decide (0 ≤ idxL p l) = l.any p := by
  unfold idxL
  by_cases h : l.findIdx p < l.length
  · rw [if_pos h, List.any_eq_true.2 ⟨l[l.findIdx p], List.getElem_mem h, List.findIdx_getElem⟩]
    simp
  · rw [if_neg h]
    have : l.any p = false := by
      rw [List.any_eq_false]
      intro x hx hp
      exact h (List.findIdx_lt_length_of_exists ⟨x, hx, hp⟩)
    rw [this]
    rfl
end Plain

theorem notmay_c (v : Value) (l : List Plain.En) (hl : l.length ≤ 9223372036854775807) (w : World) (hs : SegN w v l) (hy : Lies w.heap.size v) :
    Calls Try.prog 28 #[v] w fun e w' => e = .returned (.bool (!Plain.mayL l)) ∧ Below w.heap.size w w' := by
  have K := may_any v l hl w hs hy
  clear hs hy
  generalize Plain.mayL l = r at K ⊢
  go_enter Try.func28, Try.ntmps28
  go_wp2_with (go_at_call 29; refine K.mono ?_; rintro e w' ⟨rfl, hb⟩)
  go_ret
  exact ⟨rfl, hb⟩

theorem keepB_below {w w1 : World} (h : Below w.heap.size w w1) : KeepB w.heap.size w w1 := ⟨h.size, fun _ ha => Below.cell h ha, fun x hx => by rw [h.block x hx]⟩

set_option maxHeartbeats 2000000 in
theorem indexL_c (b off n c : Nat) (ls : List (List Plain.En)) (w : World) (hbig : n ≤ 1000) (hls : ∀ j, (ls.getD j []).length ≤ 9223372036854775807) (hL : LsB w.heap.size w b off n ls) :
    Calls Try.prog 60 #[.slice (some ⟨b, off, none⟩) n c, .func (.func 28) #[] #[]] w fun e w' => e = .returned (.int .i64 (Plain.idxL (fun l => !Plain.mayL l) ls)) ∧ Below w.heap.size w w' := by
  have HC := hid hL
  have hn := hL.len
  have HP : Hid (∀ (W : World) (v : Value) (l : List Plain.En), l.length ≤ 9223372036854775807 → SegN W v l → Lies W.heap.size v → Calls Try.prog 28 #[v] W fun e w' => e = .returned (.bool (!Plain.mayL l)) ∧ Below W.heap.size W w') := hid fun W v l q1 q2 q3 => notmay_c v l q1 W q2 q3
  have eg : ∀ args w, (callFunc 28 args).run Try.prog w = .ok (.enter 28 args) w := enters_of Try.func28 (by kernel_rfl) rfl
  have HB := hid hls
  clear hL hls
  go_enter Try.func60, Try.ntmps60
  go_wp2
  go_loopg [5, 8] n (fun gg _ s8 wr => ∃ kk : Nat, kk ≤ n ∧ n - kk ≤ gg ∧ s8 = .int .i64 kk ∧ Aside (Below w.heap.size w wr) ∧ Aside (∀ j, j < kk → (!Plain.mayL (ls.getD j [])) = false))
  case atStart => exact ⟨0, Nat.zero_le _, by omega, rfl, Below.refl _ w, fun j hj => absurd hj (Nat.not_lt_zero _)⟩
  case round =>
    obtain ⟨kk, hkk, hg, rfl, BW, A⟩ := hrel
    by_cases hlt : kk < n
    · have hltz : (kk : Int) < (n : Int) := by omega
      obtain ⟨v, c0, ev⟩ := (HC.out.keep (keepB_below BW.out)).at_ kk hlt
      have hcall := HP.out wr v (ls.getD kk []) (HB.out kk) ev.seg (ev.lies.mono BW.out.size)
      clear ev
      generalize hy : ls.getD kk [] = y at hcall
      have HY : Aside (ls.getD kk [] = y) := hy
      clear hy
      cases hq : Plain.mayL y with
      | false =>
        rw [hq] at hcall
        simp only [Bool.not_false] at hcall
        go_wp2_with (go_at_fn 28; refine hcall.mono ?_; rintro e w' ⟨rfl, hb'⟩)
        go_ret
        refine ⟨?_, BW.out.trans (hb'.mono BW.out.size)⟩
        rw [Plain.idxL_hit (by omega) (by rw [HY.out, hq]; rfl) A.out]
        rfl
      | true =>
        rw [hq] at hcall
        simp only [Bool.not_true] at hcall
        go_wp2_with (go_at_fn 28; refine hcall.mono ?_; rintro e w' ⟨rfl, hb'⟩)
        go_roundg (n - (kk + 1))
        case measure => omega
        case rel =>
          refine ⟨kk + 1, by omega, by omega, by go_num, BW.out.trans (hb'.mono BW.out.size), (show Aside _ from fun j hj => ?_)⟩
          by_cases e : j = kk
          · subst e
            rw [HY.out, hq]; rfl
          · exact A.out j (by omega)
    · have hltz : ¬ (kk : Int) < (n : Int) := by omega
      have : kk = n := by omega
      subst this
      go_wp2
      go_ret
      refine ⟨?_, BW.out⟩
      rw [Plain.idxL_miss (fun j hj => A.out j (by omega))]
      rfl

set_option maxHeartbeats 1000000 in
theorem indexL_nil (p : Option Addr) (c : Nat) (f : Value) (w : World) :
    Calls Try.prog 60 #[.slice p 0 c, f] w fun e w' => e = .returned (.int .i64 (-1)) ∧ w' = w := by
  go_enter Try.func60, Try.ntmps60
  go_wp2
  refine wp_loop_rounds 1 ?_
  rw [rounds_succ]
  go_wp2
  go_ret
  exact ⟨rfl, rfl⟩

/-- Lists of entries, none or some. -/
def LsO (w : World) (v : Value) (ls : List (List Plain.En)) : Prop := (ls = [] ∧ ∃ p c, v = .slice p 0 c) ∨ ∃ b off c, v = .slice (some ⟨b, off, none⟩) ls.length c ∧ ls.length ≤ c ∧ LsB w.heap.size w b off ls.length ls

theorem containsL_c (v : Value) (ls : List (List Plain.En)) (w : World) (hbig : ls.length ≤ 1000) (hls : ∀ j, (ls.getD j []).length ≤ 9223372036854775807) (hL : LsO w v ls) :
    Calls Try.prog 27 #[v, .func (.func 28) #[] #[]] w fun e w' => e = .returned (.bool (ls.any fun l => !Plain.mayL l)) ∧ Below w.heap.size w w' := by
  have K : Calls Try.prog 60 #[v, .func (.func 28) #[] #[]] w fun e w' => e = .returned (.int .i64 (Plain.idxL (fun l => !Plain.mayL l) ls)) ∧ Below w.heap.size w w' := by
    rcases hL with ⟨rfl, p, c, rfl⟩ | ⟨b, off, c, rfl, _, hL⟩
    · exact (indexL_nil p c _ w).mono fun e w' ⟨h1, h2⟩ => ⟨by rw [h1]; rfl, by rw [h2]; exact Below.refl _ _⟩
    · exact indexL_c b off ls.length c ls w hbig hls hL
  rw [← Plain.idxL_any]
  clear hL hls
  generalize Plain.idxL (fun l => !Plain.mayL l) ls = r at K ⊢
  go_enter Try.func27, Try.ntmps27
  go_wp2_with (go_at_call 60; refine K.mono ?_; rintro e w' ⟨rfl, hb⟩)
  go_ret
  exact ⟨rfl, hb⟩
end Go.Proofs.Ytcobehkadhcjiaa
