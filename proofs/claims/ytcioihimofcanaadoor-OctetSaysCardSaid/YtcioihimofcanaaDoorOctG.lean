/- What is quoted is read again; lines put together are the whole. -/
import Derived.Test.YtcioihimofcanaaDoorOctF
set_option linter.unusedVariables false
namespace Go.Proofs.YtcioihimofcanaaDoor
open Go.RowKit

theorem unqGo_esc_l : ∀ (l : List UInt8) (acc rest : List UInt8) (i : Nat), l.all quotableB = true → unqGo (escL l ++ 34 :: rest) acc i = (acc ++ l, i + (escL l).length + 1, 0)
  | [], acc, rest, i, _ => by rw [show escL [] ++ 34 :: rest = 34 :: rest from rfl, unqGo_end _ _ _ _ (by decide)]; simp [escL]
  | c :: l, acc, rest, i, h => by
    have hc : quotableB c = true := by simpa using (List.all_eq_true.1 h) c List.mem_cons_self
    have hl : l.all quotableB = true := List.all_eq_true.2 fun d hd => (List.all_eq_true.1 h) d (List.mem_cons_of_mem _ hd)
    have e : escL (c :: l) = escB c ++ escL l := by simp [escL]
    rw [e]
    by_cases he : escapedB c = true
    · have eb : escB c = [92, c] := by unfold escB; rw [if_pos he]
      rw [eb, show [92, c] ++ escL l ++ 34 :: rest = 92 :: c :: (escL l ++ 34 :: rest) by simp, unqGo_esc _ _ _ _ _ (by decide) (by decide) he, unqGo_esc_l l _ rest _ hl]
      simp; omega
    · have he' : escapedB c = false := by simpa using he
      have eb : escB c = [c] := by unfold escB; rw [if_neg (by simp [he'])]
      have hn : ¬ (c.toNat = 34 ∨ c.toNat = 92) := by simpa [escapedB] using he'
      rw [eb, show [c] ++ escL l ++ 34 :: rest = c :: (escL l ++ 34 :: rest) by simp, unqGo_step _ _ _ _ (by omega) hc (by omega), unqGo_esc_l l _ rest _ hl]
      simp; omega
theorem unq_quote (l rest : List UInt8) (h : quoteOk l = true) : unq (quoteS l ++ rest) = (l, (quoteS l).length, 0) := by
  have hl : l.all quotableB = true := by
    unfold quoteOk at h
    simp only [Bool.and_eq_true] at h
    exact h.2
  unfold quoteS
  rw [if_pos h, show 34 :: (escL l ++ [34]) ++ rest = 34 :: (escL l ++ 34 :: rest) by simp, unq, if_pos (by decide), unqGo_esc_l l [] rest 1 hl]
  simp; omega
theorem scan_flat : ∀ (l cur : List UInt8), (scan cur l).flatten = cur ++ l
  | [], cur => by
    unfold scan
    split
    · rename_i h; simp [h]
    · simp
  | [c], cur => by simp [scan]
  | c :: d :: r, cur => by
    rw [scan]
    split
    · rename_i h
      obtain ⟨rfl, rfl⟩ := h
      rw [List.flatten_cons, scan_flat r []]
      simp
    · rw [scan_flat (d :: r) (cur ++ [c])]
      simp
theorem scan_ends : ∀ (l cur : List UInt8) (i : Nat) (h : i + 1 < (scan cur l).length), ∃ x, (scan cur l)[i]'(by omega) = x ++ [13, 10]
  | [], cur, i, h => by
    unfold scan at h
    split at h <;> simp at h
  | [c], cur, i, h => by simp [scan] at h
  | c :: d :: r, cur, i, h => by
    by_cases hc : c = 13 ∧ d = 10
    · have e : scan cur (c :: d :: r) = (cur ++ [13, 10]) :: scan [] r := by rw [scan, if_pos hc]
      simp only [e] at h ⊢
      cases i with
      | zero => exact ⟨cur, rfl⟩
      | succ i =>
        obtain ⟨x, hx⟩ := scan_ends r [] i (by simpa using h)
        exact ⟨x, by simpa using hx⟩
    · have e : scan cur (c :: d :: r) = scan (cur ++ [c]) (d :: r) := by rw [scan, if_neg hc]
      simp only [e] at h ⊢
      exact scan_ends (d :: r) (cur ++ [c]) i h
theorem linesL_flat (l : List UInt8) : (linesL l).flatten = l := by rw [linesL_scan _ _ (Nat.le_refl _), scan_flat]; rfl
theorem linesL_ends (l : List UInt8) (i : Nat) (h : i + 1 < (linesL l).length) : ∃ x, (linesL l)[i]'(by omega) = x ++ [13, 10] := by
  have e := linesL_scan _ l (Nat.le_refl _)
  simp only [e] at h ⊢
  exact scan_ends l [] i h
theorem foldL_foldL (l : List UInt8) : foldL (foldL l) = foldL l := by
  have h : ∀ c, smallU (smallU c) = smallU c := by
    intro c
    apply UInt8.toNat_inj.1
    rw [smallU_toNat, smallU_toNat]
    grind
  simp [foldL, h]

/-- Element i of a slice of rows. -/
theorem RowsB.at_ {w : World} {B n cap : Nat} {A : Option Addr} {ls : List (List UInt8)} (h : RowsB w B (.slice A n cap) ls) (i : Nat) (hi : i < ls.length) :
    ∃ G g c, A = some ⟨G, 0, none⟩ ∧ w.cell? ⟨G, i, none⟩ = some (.slice (some ⟨g, 0, none⟩) ls[i].length c) ∧ Bts 5 w g ls[i] ∧ ls[i].length ≤ c := by
  obtain ⟨vs, h1, h2, h3⟩ := h
  obtain ⟨g, c, e, hb, _, hc⟩ := h3 i hi (by omega)
  rcases h1.2 with ⟨_, h0⟩ | ⟨G, cap', cur, hv, _, hh, hn, _, hs, ht⟩
  · omega
  · injection hv with hA _ _
    refine ⟨G, g, c, hA, ?_, hb, hc⟩
    have h4 : (cur.toList.take (ls.length * 1))[i]? = vs[i]? := by rw [ht]
    have hcl : cur.toList.length = cap' := by simpa using hs
    rw [List.getElem?_take_of_lt (by omega), List.getElem?_eq_getElem (l := vs) (by omega), e] at h4
    have h5 : cur[i]? = some (.slice (some ⟨g, 0, none⟩) ls[i].length c) := by simpa using h4
    simp [World.cell?, hh, h5]
theorem Bts.window {P : Program} {e : TypeId} {w : World} {g : Nat} {l : List UInt8} (h : Bts e w g l) (src dst : TypeId) (o n cap : Nat) (ho : o + n ≤ l.length) (hs : P.underlying src = some (.slice e)) (he : P.underlying e = some (.int .u8)) (hd : P.underlying dst = some .string) :
    (convert src dst (.slice (some ⟨g, o, none⟩) n cap)).run P w = .ok (.string ⟨((l.drop o).take n).toArray⟩) w := by
  have hn : ((l.drop o).take n).length = n := by rw [List.length_take, List.length_drop]; omega
  have := run_convert_bytes_back (P := P) w src dst e ⟨g, o, none⟩ cap ((l.drop o).take n) hs he hd fun j hj => by
    have e1 : (⟨g, o, none⟩ : Addr).add j = ⟨g, o + j, none⟩ := by unfold Addr.add; split <;> simp_all
    rw [e1, h.cell (o + j) (by omega)]
    simp
  rw [hn] at this
  exact this

theorem bstr_append (a b : List UInt8) : Value.string ((⟨a.toArray⟩ : ByteArray) ++ ⟨b.toArray⟩) = .string ⟨(a ++ b).toArray⟩ := by
  have : (⟨a.toArray⟩ : ByteArray) ++ ⟨b.toArray⟩ = ⟨(a ++ b).toArray⟩ := by
    apply ByteArray.ext
    simp [ByteArray.data_append]
  rw [this]
theorem flat_snoc {α} (ls : List (List α)) (k : Nat) (h : k < ls.length) : (ls.take (k + 1)).flatten = (ls.take k).flatten ++ ls[k] := by
  rw [List.take_succ_eq_append_getElem h, List.flatten_append, List.flatten_singleton]
theorem flat_le {α} (ls : List (List α)) (k : Nat) (h : k < ls.length) : (ls.take k).flatten.length + ls[k].length ≤ ls.flatten.length := by
  have e : ls.flatten = (ls.take (k + 1)).flatten ++ (ls.drop (k + 1)).flatten := by rw [← List.flatten_append, List.take_append_drop]
  rw [e, flat_snoc ls k h]
  simp only [List.length_append]
  omega
theorem unq_back (s rest : ByteArray) (Q : List UInt8) (hs5 : s.size ≤ 500) (hr1 : rest.size ≤ 100) (hql : Q.length ≤ 2 * s.size + 2) (hq : unq (Q ++ rest.data.toList) = (s.data.toList, Q.length, 0)) (w : World) :
    Calls Tryd.prog 7 #[.string ((⟨Q.toArray⟩ : ByteArray) ++ rest)] w fun e w' => e = .returned (.tuple #[.string s, .int .i64 (Q.length : Int), .int .i64 0]) ∧ Below w.heap.size w w' := by
  have hsz : ((⟨Q.toArray⟩ : ByteArray) ++ rest).size = Q.length + rest.size := by rw [ByteArray.size_append]; rfl
  have hd : ((⟨Q.toArray⟩ : ByteArray) ++ rest).data.toList = Q ++ rest.data.toList := by simp [ByteArray.data_append]
  have h := unquote_any ((⟨Q.toArray⟩ : ByteArray) ++ rest) w (by rw [hsz]; omega)
  rw [hd, hq] at h
  exact h

def foldF (s : ByteArray) : ByteArray := ⟨(foldL s.data.toList).toArray⟩
theorem fold_s (s : ByteArray) (h : s.size ≤ 500) (w : World) : Calls Tryd.prog 17 #[.string s] w fun e w' => e = .returned (.string (foldF s)) ∧ Below w.heap.size w w' :=
  fold_any s w (by unfold maxLen; omega)
theorem foldF_size (s : ByteArray) : (foldF s).size = s.size := by
  have := len_data s
  simp only [foldF, ByteArray.size, List.size_toArray, foldL, List.length_map]
  exact this
theorem fold_f (s : ByteArray) (h : s.size ≤ 500) (w : World) : Calls Tryd.prog 17 #[.string (foldF s)] w fun e w' => e = .returned (.string (foldF s)) ∧ Below w.heap.size w w' := by
  refine (fold_any (foldF s) w (by rw [foldF_size]; unfold maxLen; omega)).mono ?_
  rintro e w' ⟨rfl, hb⟩
  refine ⟨ret_str ?_, hb⟩
  simp only [foldF, foldL_foldL]
theorem same_f (s : ByteArray) (h : s.size ≤ 500) (w : World) : Calls Tryd.prog 12 #[.string s, .string (foldF s)] w fun e w' => e = .returned (.bool true) ∧ Below w.heap.size w w' := by
  refine (same_any s (foldF s) w (by unfold maxLen; omega)).mono ?_
  rintro e w' ⟨rfl, n, rfl⟩
  exact ⟨ret_bool (by simp [sameB, foldF, foldL_foldL]), below_drewN (Below.refl _ _) n⟩

end Go.Proofs.YtcioihimofcanaaDoor
