/-
  What PackParts leans on: prefixes of slices, widths that end at a byte, fields behind fields.
-/
import Derived.Test.YtnnicibkmbidpacKo
import Derived.Laws.AppendOwnNone
namespace Go.Proofs.Ytnnicibkmbidpac
open Go.RowKit

theorem getD_take {α : Type} (l : List α) (d : α) (j k : Nat) (h : j < k) : (l.take k).getD j d = l.getD j d := by
  simp [List.getD_eq_getElem?_getD, h]

theorem seg_take {w : World} {p : Option Addr} {n c k : Nat} {l : List Int} (h : Seg w (.slice p n c) l) (hk : k ≤ l.length) : Seg w (.slice p k c) (l.take k) := by
  rcases h with ⟨rfl, p1, c1, e⟩ | ⟨b, o, c1, e, g⟩
  · have : k = 0 := by simpa using hk
    subst this
    exact .inl ⟨rfl, _, _, rfl⟩
  · injection e with e1 e2 e3
    subst e1 e3
    refine .inr ⟨b, o, c, by rw [List.length_take, Nat.min_eq_left hk], fun j hj => ?_⟩
    rw [List.length_take] at hj
    rw [getD_take l 0 j k (by omega)]
    exact g j (by omega)

namespace Plain
theorem take_ok (l : List Int) (k : Nat) (h : l.all okW = true) : (l.take k).all okW = true := by
  rw [List.all_eq_true] at h ⊢
  exact fun x hx => h x (List.mem_of_mem_take hx)

/-- The last width of PackParts: behind it the bits end at a byte. -/
def lastW (n : Nat) : Nat := 8 + (8 - n % 8) % 8
theorem lastW_bd (n : Nat) : 8 ≤ lastW n ∧ lastW n ≤ 15 ∧ (n + lastW n) % 8 = 0 := by unfold lastW; omega

theorem bitsN_append (a b : List Int) : bitsN (a ++ b) = bitsN a + bitsN b := by simp [bitsN]

theorem pp (ws us xs ys : List Int) (hz : szE ws = 0) (hu : szE us = 0) (h8 : bitsN ws % 8 = 0) (hl : ws.length + us.length ≤ 40) :
    packE (flist ws xs ws.length ++ flist us ys us.length) = 0 ∧ packB (flist ws xs ws.length ++ flist us ys us.length) = packB (flist ws xs ws.length) ++ packB (flist us ys us.length) := by
  have h1 := szE_zero _ hz
  have h2 := szE_zero _ hu
  have hf : (flist ws xs ws.length ++ flist us ys us.length).map Prod.fst = ws ++ us := by rw [List.map_append, flist_fst, flist_fst]
  have ha : (ws ++ us).all okW = true := by rw [List.all_append, h1.2.1, h2.2.1]; rfl
  have hs := sz_yes (ws ++ us) (by simp; omega) ha
  have hfit : (flist ws xs ws.length ++ flist us ys us.length).all fitB = true := by rw [List.all_append, flist_fit, flist_fit]; rfl
  have hp := packE_ok (flist ws xs ws.length ++ flist us ys us.length) (by rw [hf]; exact hs.1) hfit
  refine ⟨hp.1, ?_⟩
  rw [hp.2, (fl_pack ws xs hz).2, (fl_pack us ys hu).2, hf, List.map_append, rbits_append]
  have hlen : (rbits ((flist ws xs ws.length).map nat2)).length = 8 * szN ws := by
    rw [pk_len, flist_fst]; omega
  have hn : szN (ws ++ us) = szN ws + szN us := by
    rw [hs.2, bitsN_append]; omega
  rw [hn]
  exact parts _ _ _ _ hlen
end Plain

theorem lvals_append (l m : List (Int × Int)) : lvals (l ++ m) = lvals l ++ lvals m := by simp [lvals]
theorem zvals_append (l m : List Nat) : zvals (l ++ m) = zvals l ++ zvals m := by simp [zvals]
theorem lvals_one (l : List (Int × Int)) : ∀ u ∈ lvals l, u.oneCell' = true := by
  intro u hu
  simp only [lvals, List.mem_flatMap] at hu
  obtain ⟨f, _, hf⟩ := hu
  simp at hf
  rcases hf with rfl | rfl <;> rfl

/-- The cells of a slice of fields, as append asks for them. -/
theorem segF_src {w : World} {b o c n : Nat} {l : List (Int × Int)} (h : SegF w (.slice (some ⟨b, o, none⟩) n c) l) : ∀ j u, (lvals l)[j]? = some u → w.cell? ((⟨b, o, none⟩ : Addr).add j) = some u := by
  intro j u hu
  have hj : j < l.length * 2 := by
    rcases Nat.lt_or_ge j (l.length * 2) with h1 | h1
    · exact h1
    · rw [List.getElem?_eq_none (by rw [lvals_len]; exact h1)] at hu; cases hu
  obtain ⟨b', o', e, g0, g1⟩ := segF_at h (k := j / 2) (by omega)
  injection e with e
  injection e with e1 e2
  subst e1 e2
  have hadd : (⟨b, o, none⟩ : Addr).add j = ⟨b, o + j, none⟩ := by unfold Addr.add; split <;> simp_all
  rw [hadd]
  have hg := lvals_get l (j / 2) (by omega)
  rcases Nat.mod_two_eq_zero_or_one j with c0 | c1
  · have ej : j = j / 2 * 2 := by omega
    rw [← ej] at hg g0
    rw [hg.1] at hu
    rw [g0, ← hu]
  · have ej : j = j / 2 * 2 + 1 := by omega
    rw [← ej] at hg
    rw [hg.2] at hu
    rw [← hu, ← g1, Nat.add_assoc, ← ej]

/-- append of fields that a slice holds onto a row of the call's own, whatever the slice. -/
theorem app_fields {w : World} {B n m : Nat} {v x : Value} {l q : List (Int × Int)} (hown : w.ownsRow B 35 2 v n (lvals l)) (hq : SegF w x q) (hx : ∃ p c, x = .slice p m c) (hm : m = q.length)
    (h63 : n + m ≤ 1000000) (hB : B ≤ w.heap.size) (hnil : (∃ c, x = .slice none 0 c) → x = .slice none 0 0) :
    ∃ v' w', (Builtin.append_ #[30, 30] 30 #[v, x]).run Try.prog w = .ok v' w' ∧ w'.ownsRow B 35 2 v' (n + m) (lvals (l ++ q)) ∧ w.grownBy w' v.ownBlock := by
  obtain ⟨j0, ji, jz0, jz1, jz2⟩ := info_parts Try.infoField
  obtain ⟨p, c, rfl⟩ := hx
  subst hm
  cases p with
  | none =>
    have h0 : q = [] := by
      rcases hq with ⟨h, _⟩ | ⟨b, o, c', e, _⟩
      · exact h
      · injection e with e1 _ _; cases e1
    subst h0
    have hc := hnil ⟨c, rfl⟩
    injection hc with _ _ hc
    subst hc
    refine ⟨v, w, ?_, by simpa using hown, grown_refl w _⟩
    exact run_append_owned_none (P := Try.prog) (w := w) B 30 30 35 j0 2 Try.underlying30 ji v n _ hown
  | some a =>
    by_cases h0 : q = []
    · subst h0
      obtain ⟨v', w', h1, h2, h3, _⟩ := run_append_own (P := Try.prog) w B 30 30 35 j0 (.agg #[.int .i64 0, .int .i64 0]) 2 16 Try.underlying30 ji jz0 jz1 jz2 rfl (by decide) v n _ hown a 0 c [] rfl (by simp) (by simp) (by unfold maxLen; omega) (by omega) hB
      exact ⟨v', w', h1, by simpa using h2, h3⟩
    · have hp : 0 < q.length := by cases q with | nil => exact absurd rfl h0 | cons _ _ => simp
      obtain ⟨b, o, e, _, _⟩ := segF_at hq (k := 0) hp
      injection e with e
      subst e
      obtain ⟨v', w', h1, h2, h3, _⟩ := run_append_own (P := Try.prog) w B 30 30 35 j0 (.agg #[.int .i64 0, .int .i64 0]) 2 16 Try.underlying30 ji jz0 jz1 jz2 rfl (by decide) v n _ hown ⟨b, o, none⟩ q.length c (lvals q)
        (lvals_len q) (segF_src hq) (lvals_one q) (by unfold maxLen; omega) (by omega) hB
      exact ⟨v', w', h1, by rw [lvals_append]; exact h2, h3⟩

/-- append of bytes that a slice holds onto a row of the call's own, whatever the slice. -/
theorem app_bytes {w : World} {B n m : Nat} {v x : Value} {l q : List Nat} (hown : w.ownsRow B 5 1 v n (zvals l)) (hq : SegB w x q) (hx : ∃ p c, x = .slice p m c) (hm : m = q.length)
    (h63 : n + m ≤ 1000000) (hB : B ≤ w.heap.size) (hnil : (∃ c, x = .slice none 0 c) → x = .slice none 0 0) :
    ∃ v' w', (Builtin.append_ #[23, 23] 23 #[v, x]).run Try.prog w = .ok v' w' ∧ w'.ownsRow B 5 1 v' (n + m) (zvals (l ++ q)) ∧ w.grownBy w' v.ownBlock := by
  obtain ⟨j0, ji, jz0, jz1, jz2⟩ := info_parts Try.infoByte
  obtain ⟨p, c, rfl⟩ := hx
  subst hm
  cases p with
  | none =>
    have h0 : q = [] := by
      rcases hq with ⟨h, _⟩ | ⟨b, o, c', e, _⟩
      · exact h
      · injection e with e1 _ _; cases e1
    subst h0
    have hc := hnil ⟨c, rfl⟩
    injection hc with _ _ hc
    subst hc
    refine ⟨v, w, ?_, by simpa using hown, grown_refl w _⟩
    exact run_append_owned_none (P := Try.prog) (w := w) B 23 23 5 j0 1 Try.underlying23 ji v n _ hown
  | some a =>
    by_cases h0 : q = []
    · subst h0
      obtain ⟨v', w', h1, h2, h3, _⟩ := run_append_own (P := Try.prog) w B 23 23 5 j0 (.int .u8 0) 1 1 Try.underlying23 ji jz0 jz1 jz2 rfl (by decide) v n _ hown a 0 c [] rfl (by simp) (by simp) (by unfold maxLen; omega) (by omega) hB
      exact ⟨v', w', h1, by simpa using h2, h3⟩
    · have hp : 0 < q.length := by cases q with | nil => exact absurd rfl h0 | cons _ _ => simp
      obtain ⟨b, o, e, _⟩ := segB_at hq (k := 0) hp
      injection e with e
      subst e
      obtain ⟨v', w', h1, h2, h3, _⟩ := run_append_own (P := Try.prog) w B 23 23 5 j0 (.int .u8 0) 1 1 Try.underlying23 ji jz0 jz1 jz2 rfl (by decide) v n _ hown ⟨b, o, none⟩ q.length c (zvals q)
        (by rw [zvals_len]; omega) (segB_src hq) (zvals_one q) (by unfold maxLen; omega) (by omega) hB
      exact ⟨v', w', h1, by rw [zvals_append]; exact h2, h3⟩

/-- Pack of fields that fit: the slice is not nil. -/
theorem pack_fl (r : Value) (ws vs : List Int) (hz : Plain.szE ws = 0) (w : World) (h : SegF w r (Plain.flist ws vs ws.length)) (hv : Lies w.heap.size r) :
    Calls Try.prog 14 #[r] w fun e w' => ∃ a c, e = .returned (.tuple #[.slice (some a) (Plain.szN ws) c, .int .i64 0]) ∧ SegB w' (.slice (some a) (Plain.szN ws) c) (Plain.packB (Plain.flist ws vs ws.length)) ∧
      Lies w'.heap.size (.slice (some a) (Plain.szN ws) c) ∧ Below w.heap.size w w' := by
  by_cases h0 : ws = []
  · subst h0
    obtain ⟨p, c, rfl⟩ := segF_form h
    refine (pack_nil p c w).mono ?_
    rintro e w' ⟨rfl, hb⟩
    exact ⟨_, _, rfl, .inl ⟨List.length_eq_zero_iff.1 (Plain.fl_len [] vs hz), _, _, rfl⟩, lies_nil _ _ _, hb⟩
  · have hlen := Plain.fl_len ws vs hz
    have hn : 0 < Plain.szN ws := by
      rcases Nat.eq_zero_or_pos (Plain.szN ws) with e | e
      · exact absurd (Plain.sz_empty ws hz e) h0
      · exact e
    have hl40 := (Plain.szE_zero ws hz).1
    refine (pack_any r _ (by rw [Plain.flist_len]; omega) w h hv).mono ?_
    rintro e w' ⟨u, rfl, s, l, hb⟩
    obtain ⟨p, c, rfl⟩ := segB_form s
    obtain ⟨b, o, rfl, _⟩ := segB_at s (k := 0) (by omega)
    rw [(Plain.fl_pack ws vs hz).1]
    rw [hlen] at s l ⊢
    exact ⟨_, _, rfl, s, l, hb⟩

theorem own_nil {w : World} {B e s n c : Nat} {p : Option Addr} {xs : List Value} (h : w.ownsRow B e s (.slice p n c) n xs) : (∃ c', Value.slice p n c = .slice none 0 c') → Value.slice p n c = .slice none 0 0 := by
  rintro ⟨c', e⟩
  rcases h.2 with ⟨e1, _⟩ | ⟨_, _, _, e1, _⟩
  · exact e1
  · rw [e] at e1; cases e1
theorem some_nil {a : Addr} {n c : Nat} : (∃ c', Value.slice (some a) n c = .slice none 0 c') → Value.slice (some a) n c = .slice none 0 0 := by
  rintro ⟨c', e⟩
  cases e

theorem below_grown {w w1 : World} {v : Value} (h : w.grownBy w1 v.ownBlock) (hv : ∀ k, v.ownBlock = some k → w.heap.size ≤ k) : Below w.heap.size w w1 := (Below.refl _ _).grown h (Nat.le_refl _) hv
theorem lies_take {B n k c : Nat} {p : Option Addr} (h : Lies B (.slice p n c)) (hk : k ≤ n) : Lies B (.slice p k c) := by
  intro q m c' e hm
  injection e with e1 e2 e3
  subst e1
  exact h q n c rfl (by omega)

/-- append whose run is known, at an operation that is wanted. -/
theorem wpList_app {P : Program} {ops : Array Oper} {Q : Exit → Act → World → Prop} {a : Act} {w w' : World} {rest : List Oper} {o : Oper} {v1 v2 v' : Value} {ty : Nat} (s x : Operand) (t : TypeId)
    (hrun : (Builtin.append_ #[t, t] ty #[v1, v2]).run P w = .ok v' w') (ho : o.op = .call { callee := .builtin .append, args := #[s, x], argTypes := #[t, t] }) (hty : o.type = ty)
    (hs : a.eval s = v1) (hx : a.eval x = v2) (hw : Region.wanted o (yielded ops a.tmps) = true) (h : wpList P ops Q rest (a.put o.dst v') w') : wpList P ops Q (o :: rest) a w :=
  BigFrame.wpList_want hw fun K hK => by
    unfold Oper.wp execOp
    simp only [ho, resolve, invoke, builtin, Sem.run_bind, Sem.run_pure, Result.andThen_ok, List.map_toArray, List.map_cons, List.map_nil, hs, hx, hty, hrun]
    exact hK _ _ h
end Go.Proofs.Ytnnicibkmbidpac
