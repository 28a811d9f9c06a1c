/- The walk of the law HeadBuilt. -/
import Derived.Test.YtcigfmnkfelhjaaDoorHdN
import Derived.Test.YtcigfmnkfelhjaaDoorHdF
import Derived.Test.YtcigfmnkfelhjaaDoorHeld
import Derived.Test.YtcigfmnkfelhjaaDoorArg
set_option linter.unusedVariables false
namespace Go.Proofs.YtcigfmnkfelhjaaDoor
open Go.RowKit

theorem ba_eta (s : ByteArray) : (⟨s.data.toList.toArray⟩ : ByteArray) = s := by cases s; simp
/-- The pairs of names and values. -/
def pairsOf (ns vs : List ByteArray) : List (List UInt8 × List UInt8) := (ns.zip vs).map fun z => (z.1.data.toList, z.2.data.toList)
theorem pairs_len (ns vs : List ByteArray) (h : ns.length ≤ vs.length) : (pairsOf ns vs).length = ns.length := by
  unfold pairsOf
  rw [List.length_map, List.length_zip]
  omega
theorem pairs_get (ns vs : List ByteArray) (i : Nat) (h1 : i < ns.length) (h2 : i < vs.length) (h : i < (pairsOf ns vs).length) : (pairsOf ns vs)[i] = (ns[i].data.toList, vs[i].data.toList) := by
  have e : (pairsOf ns vs)[i]? = some (ns[i].data.toList, vs[i].data.toList) := by
    unfold pairsOf
    have e2 : (ns.zip vs)[i]? = some (ns[i], vs[i]) := List.getElem?_zip_eq_some.2 ⟨List.getElem?_eq_getElem h1, List.getElem?_eq_getElem h2⟩
    rw [List.getElem?_map, e2]
    rfl
  rw [List.getElem?_eq_getElem h] at e
  exact Option.some.inj e
theorem catP_snoc : ∀ (ps : List (List UInt8 × List UInt8)) (p : List UInt8 × List UInt8), catP (ps ++ [p]) = catP ps ++ lineOf p
  | [], p => by simp [catP]
  | q :: r, p => by simp only [List.cons_append, catP, catP_snoc r p, List.append_assoc]
theorem pair_ok {n v : ByteArray} (hn : plainB true n.data.toList = true) (hv : plainB false v.data.toList = true) : PairOk (n.data.toList, v.data.toList) ∧ n.size < 100 ∧ v.size < 100 := by
  have h1 := plain_facts hn
  have h2 := plain_facts hv
  refine ⟨⟨⟨fun e => ?_, fun c hc => okC_name (h1.2.1 c hc)⟩, fun c hc => okC_text (h2.2.1 c hc)⟩, ?_, ?_⟩
  · have h3 := h1.2.2 rfl
    have e' : n.data.toList = [] := e
    rw [e'] at h3
    simp at h3
  · have := h1.1
    rwa [len_data] at this
  · have := h2.1
    rwa [len_data] at this

theorem st4_next {w wx wy : World} {g1 g2 g3 g4 o1 o2 o3 o4 : Nat} {x1 x2 x3 x4 : Value} (hb : Below wx.heap.size wx wy) (c1 : wx.cell? ⟨g1, o1, none⟩ = some x1) (c2 : wx.cell? ⟨g2, o2, none⟩ = some x2) (c3 : wx.cell? ⟨g3, o3, none⟩ = some x3) (c4 : wx.cell? ⟨g4, o4, none⟩ = some x4) (hB : BelC w wx) :
    wy.cell? ⟨g1, o1, none⟩ = some x1 ∧ wy.cell? ⟨g2, o2, none⟩ = some x2 ∧ wy.cell? ⟨g3, o3, none⟩ = some x3 ∧ wy.cell? ⟨g4, o4, none⟩ = some x4 ∧ BelC w wy :=
  ⟨(hb.cell (p := ⟨g1, o1, none⟩) (World.block_lt_of_cell? wx _ c1)).trans c1, (hb.cell (p := ⟨g2, o2, none⟩) (World.block_lt_of_cell? wx _ c2)).trans c2, (hb.cell (p := ⟨g3, o3, none⟩) (World.block_lt_of_cell? wx _ c3)).trans c3, (hb.cell (p := ⟨g4, o4, none⟩) (World.block_lt_of_cell? wx _ c4)).trans c4, belc_go hb hB⟩
set_option maxRecDepth 100000 in
set_option maxHeartbeats 8000000 in
theorem built_walk (A1 : Option Addr) (ns : List ByteArray) (c1 : Nat) (A2 : Option Addr) (vs : List ByteArray) (c2 : Nat) (body : ByteArray) (w : World) (h1 : RdR StrZ 1 w A1 ns) (hc1 : ns.length ≤ c1) (hm1 : c1 ≤ maxLen) (h2 : RdR StrZ 1 w A2 vs) (hc2 : vs.length ≤ c2) (hm2 : c2 ≤ maxLen) (hb1 : body.size ≤ maxLen) (hb2 : body.size ≤ 140737488351232) (hm : ∃ m, w.cell? ⟨0, 0, none⟩ = some (.int .i64 m)) (hg : 0 < w.heap.size) :
    Calls Tryd.prog 4 #[.slice A1 ns.length c1, .slice A2 vs.length c2, .string body] w fun e w' => e = .returned (.bool true) ∧ Below w.heap.size w w' := by
  have hmm : MaxLenIs w := hm
  have haw := Lib.hid (awkWalk w hm hg)
  clear hm hb1
  go_enter Tryd.func4, Tryd.ntmps4
  go_wp2_with fail
  (with_reducible refine haw.out.mono ?_)
  rintro _ w1 ⟨rfl, b1⟩
  by_cases g1 : (20 : Int) < (ns.length : Int)
  · go_wp2
    go_ret
    exact ⟨rfl, b1⟩
  by_cases g2 : (vs.length : Int) < (ns.length : Int)
  · go_wp2
    go_ret
    exact ⟨rfl, b1⟩
  by_cases g3 : (200 : Int) < (body.size : Int)
  · go_wp2
    go_ret
    exact ⟨rfl, b1⟩
  have hnv : ns.length ≤ vs.length := by omega
  have hn20 : ns.length ≤ 20 := by omega
  obtain ⟨ps, hps⟩ : ∃ ps, ps = pairsOf ns vs := ⟨_, rfl⟩
  have hpl : Hid (ps.length = ns.length) := by rw [hps]; exact pairs_len ns vs hnv
  have hpg : Hid (∀ i (h1 : i < ns.length) (h2 : i < vs.length) (h : i < ps.length), ps[i] = (ns[i].data.toList, vs[i].data.toList)) := by
    subst hps
    exact fun i h1 h2 h => pairs_get ns vs i h1 h2 h
  have gd1 : decide ((20 : Int) < (ns.length : Int)) = false := decide_eq_false g1
  have gd2 : decide (vs.length < ns.length) = false := decide_eq_false (by omega)
  have gd3 : decide ((200 : Int) < (body.size : Int)) = false := decide_eq_false g3
  clear hps haw
  go_wp2
  try simp only [gd2]
  go_loopw [7, 8] (fun sv iv wx => ∃ (k : Nat) (S : ByteArray), k ≤ ns.length ∧ iv = .int .i64 (k : Int) ∧ sv = .string S ∧ S.size ≤ 204 * k ∧ Hid (S.data.toList = catP (ps.take k)) ∧ Hid (∀ p ∈ ps.take k, PairOk p) ∧ Hid (∀ v ∈ vs.take k, v.size < 100) ∧ (∃ n, wx = w1.drewN n)) (fun _ iv _ => ns.length - (intOf iv).toNat)
  case atStart => exact ⟨0, ⟨#[]⟩, Nat.zero_le _, rfl, rfl, by show (#[] : Array UInt8).size ≤ _; simp, by simp [Hid, catP], by simp [Hid], by simp [Hid], ⟨0, rfl⟩⟩
  case round =>
    obtain ⟨k, S, hk, rfl, rfl, hS, HQ, HP, HV, ⟨nn, rfl⟩⟩ := hrel
    have bw : Below w.heap.size w (w1.drewN nn) := below_drewN b1 nn
    by_cases hlt : k < ns.length
    · have e1 : (k : Int) < (ns.length : Int) := by omega
      have hlt2 : k < vs.length := by omega
      have e2 : (k : Int) < (vs.length : Int) := by omega
      have e0 : (0 : Int) ≤ (k : Int) := by omega
      obtain ⟨bb, o, v, rfl, ⟨hv, hvs⟩, hcell⟩ := (h1.below StrZ.keeps b1 (Nat.le_refl _)).one k hlt
      obtain rfl : v = .string ns[k] := by simpa using hv
      obtain ⟨bb', o', v', rfl, ⟨hv', hvs'⟩, hcell'⟩ := (h2.below StrZ.keeps b1 (Nat.le_refl _)).one k hlt2
      obtain rfl : v' = .string vs[k] := by simpa using hv'
      have hpk : k < ps.length := by rw [hpl.out]; exact hlt
      have hpe := hpg.out k hlt hlt2 hpk
      have ht1 : ps.take (k + 1) = ps.take k ++ [ps[k]] := List.take_succ_eq_append_getElem hpk
      have ht2 : vs.take (k + 1) = vs.take k ++ [vs[k]] := List.take_succ_eq_append_getElem hlt2
      rw [hpe] at ht1
      generalize ns[k] = a at hcell hvs ht1 hv
      generalize vs[k] = b at hcell' hvs' ht1 ht2 hv'
      have d1 : (w1.drewN nn).cell? ⟨bb, o + k, none⟩ = some (.string a) := hcell
      have d2 : (w1.drewN nn).cell? ⟨bb', o' + k, none⟩ = some (.string b) := hcell'
      have p1 := plain_any true a (w1.drewN nn) (by unfold maxLen; omega)
      have p2 := plain_any false b (w1.drewN nn) (by unfold maxLen; omega)
      obtain ⟨B1, hB1⟩ : ∃ B1, Hid (plainB true a.data.toList = B1) := ⟨_, rfl⟩
      obtain ⟨B2, hB2⟩ : ∃ B2, Hid (plainB false b.data.toList = B2) := ⟨_, rfl⟩
      rw [hB1.out] at p1
      rw [hB2.out] at p2
      replace ht1 := Lib.hid ht1
      replace ht2 := Lib.hid ht2
      clear hpe hv hv'
      go_wp2_with fail
      (with_reducible refine p1.mono ?_)
      rintro _ w9 ⟨rfl, rfl⟩
      cases B1 with
      | false =>
        go_wp2
        go_ret
        exact ⟨rfl, bw⟩
      | true =>
        go_wp2_with fail
        (with_reducible refine p2.mono ?_)
        rintro _ w9 ⟨rfl, rfl⟩
        cases B2 with
        | false =>
          go_wp2
          go_ret
          exact ⟨rfl, bw⟩
        | true =>
          obtain ⟨hpo, hz1, hz2⟩ := pair_ok hB1.out hB2.out
          obtain ⟨T, hT⟩ : ∃ T, S ++ a ++ ⟨#[58, 32]⟩ ++ b ++ ⟨#[13, 10]⟩ = T := ⟨_, rfl⟩
          have hTl : T.data.toList = catP (ps.take k) ++ lineOf (a.data.toList, b.data.toList) := by rw [← hT]; simp [lineOf, ByteArray.data_append, HQ.out]
          have hTs : T.size ≤ 204 * (k + 1) := by
            rw [← hT]
            simp only [ByteArray.size_append]
            have e1 : (⟨#[58, 32]⟩ : ByteArray).size = 2 := rfl
            have e2 : (⟨#[13, 10]⟩ : ByteArray).size = 2 := rfl
            omega
          have HT1 : Hid (T.data.toList = catP (ps.take (k + 1))) := by
            show _ = _
            rw [ht1.out, catP_snoc, hTl]
          have HT2 : Hid (∀ p ∈ ps.take (k + 1), PairOk p) := by
            intro p hp
            rw [ht1.out] at hp
            rcases List.mem_append.1 hp with h | h
            · exact HP.out p h
            · rw [List.mem_singleton] at h
              rw [h]
              exact hpo
          have HT3 : Hid (∀ v ∈ vs.take (k + 1), v.size < 100) := by
            intro v hv
            rw [ht2.out] at hv
            rcases List.mem_append.1 hv with h | h
            · exact HV.out v h
            · rw [List.mem_singleton] at h
              rw [h]
              exact hz2
          have hS6 : S.size ≤ 4080 := by omega
          clear p1 p2 HQ HP HV hTl ht1 ht2 hB1 hB2 hpo
          go_wp2_with fail
          go_quiet (fail)
          go_wp2
          go_roundw
          case rel => exact ⟨k + 1, T, by omega, by go_num, rfl, hTs, HT1, HT2, HT3, ⟨nn + nq, by first | rfl | rw [World.drewN_drewN]⟩⟩
          case measure => simp [intOf]; omega
    · obtain rfl : k = ns.length := by omega
      have hlt' : ¬ (ns.length : Int) < (ns.length : Int) := by omega
      obtain ⟨W1, hW1⟩ : ∃ W1, W1 = w1.drewN nn := ⟨_, rfl⟩
      rw [← hW1] at bw ⊢
      clear hW1
      have HQ2 : Hid (S.data.toList = catP ps) := by
        have h := HQ.out
        rwa [← hpl.out, List.take_length] at h
      have HP2 : Hid (∀ p ∈ ps, PairOk p) := by
        have h := HP.out
        rwa [← hpl.out, List.take_length] at h
      clear HQ HP
      obtain ⟨U, hU⟩ : ∃ U, S ++ ⟨#[13, 10]⟩ ++ body = U := ⟨_, rfl⟩
      have mU : U.data.toList = catP ps ++ 13 :: 10 :: body.data.toList := by rw [← hU]; simp [ByteArray.data_append, HQ2.out]
      have lU : U.size ≤ 5000 := by
        rw [← hU]
        simp only [ByteArray.size_append]
        have e1 : (⟨#[13, 10]⟩ : ByteArray).size = 2 := rfl
        omega
      obtain ⟨F, hF⟩ : ∃ F, F = resP 0 ps := ⟨_, rfl⟩
      have hFf : fieldsF valF U.data.toList (endF U.data.toList) = F := by rw [mU, hF]; exact fields_cat ps _ HP2.out (by rw [hpl.out]; exact hn20)
      have HFl : Hid (F.length = ns.length) := by rw [hF]; show _ = _; rw [resP_len, hpl.out]
      have HFg : Hid (∀ i (h : i < F.length) (h1 : i < ns.length) (h2 : i < vs.length), F[i].name = ns[i] ∧ F[i].value = valF vs[i]) := by
        subst hF
        intro i h h1 h2
        have hip : i < ps.length := by rw [hpl.out]; exact h1
        have h3 := resP_get ps 0 i hip h
        rw [hpg.out i h1 h2 hip] at h3
        simp only [ba_eta] at h3
        exact h3
      obtain ⟨cap1, C1, hconv1, hcap1, hC1⟩ := conv_bytes (P := Tryd.prog) W1 9 22 5 U Tryd.underlying9 Tryd.underlying22 Tryd.underlying5
      have hbt1 : Bts 5 (W1.alloc (.cells C1 5 (C1.size, C1.size + 1))).drew W1.heap.size U.data.toList := (Bts.new W1 (fun j h => hC1 j (by rw [len_data] at h; exact h))).drew
      have bc1 : Below W1.heap.size W1 (W1.alloc (.cells C1 5 (C1.size, C1.size + 1))).drew := ((Below.refl _ W1).alloc (Nat.le_refl _) _).drew
      have D1 := bw.trans (bc1.mono bw.size)
      have hG1 := fields_w (some ⟨W1.heap.size, 0, none⟩) U.data.toList cap1 _ (Rd.of_bts hbt1) (by rw [len_data]; omega) (by rw [len_data]; exact hcap1) (hmm.below D1 hg) (Nat.lt_of_lt_of_le hg D1.size)
      rw [hFf, len_data] at hG1
      have HG1 := Lib.hid hG1
      clear hbt1 bc1 hG1 hC1 hF hFf mU HQ2 HP2 hpg hpl
      go_wp2_with fail
      (with_reducible refine HG1.out.mono ?_)
      rintro _ w3 ⟨v, rfl, hown, b3⟩
      have D3 := D1.trans (b3.mono D1.size)
      obtain ⟨A5, cap5, rfl, hc5, hcm5, hA5⟩ := hown.shape
      rw [HFl.out] at hA5 ⊢
      clear HG1 hconv1 hU b3 D1 hS
      have HV2 := HV
      clear HV
      go_wp2
      go_loopw [10] (fun iv wx => ∃ k : Nat, k ≤ ns.length ∧ iv = .int .i64 (k : Int) ∧ Below w3.heap.size w3 wx) (fun iv _ => ns.length - (intOf iv).toNat)
      case atStart => exact ⟨0, Nat.zero_le _, rfl, Below.refl _ _⟩
      case round =>
        obtain ⟨k, hk, rfl, hb⟩ := hrel
        have D4 := D3.trans (hb.mono D3.size)
        by_cases hlt : k < ns.length
        · have e1 : (k : Int) < (ns.length : Int) := by omega
          have hlt2 : k < vs.length := by omega
          have e2 : (k : Int) < (vs.length : Int) := by omega
          have e0 : (0 : Int) ≤ (k : Int) := by omega
          obtain ⟨g5, rfl, hg5, _⟩ := hA5 (by omega)
          have hkF : k < F.length := by rw [HFl.out]; exact hlt
          have hown' := hown.below hb (Nat.le_refl _)
          have d0 := (hown'.cell k 0 hkF (by omega) _ rfl).1
          have d1 := (hown'.cell k 1 hkF (by omega) _ rfl).1
          rw [Nat.mul_comm 4 k] at d0 d1
          rw [Nat.add_zero] at d0
          obtain ⟨f1, f2⟩ := HFg.out k hkF hlt hlt2
          rw [f1] at d0
          rw [f2] at d1
          obtain ⟨bb, o, v, rfl, ⟨hv, hvs⟩, d2⟩ := (h1.below StrZ.keeps D4 (Nat.le_refl _)).one k hlt
          obtain rfl : v = .string ns[k] := by simpa using hv
          obtain ⟨bb', o', v', rfl, ⟨hv', hvs'⟩, d3⟩ := (h2.below StrZ.keeps D4 (Nat.le_refl _)).one k hlt2
          obtain rfl : v' = .string vs[k] := by simpa using hv'
          have hz : vs[k].size < 100 := by
            refine HV2.out vs[k] ?_
            exact List.mem_take_iff_getElem.2 ⟨k, by omega, rfl⟩
          generalize ns[k] = a at d0 d2
          generalize vs[k] = b at d1 d3 hz
          have qv : ∀ V, BelC wr V → Calls Tryd.prog 9 #[.string b] V fun e w' => e = .returned (.string (valF b)) ∧ Below V.heap.size V w' := fun V hV => value_any b V (by omega) (hmm.below (D4.trans (Below.mono hV D4.size)) hg) (Nat.lt_of_lt_of_le hg (D4.trans (Below.mono hV D4.size)).size)
          generalize valF b = vb at d1 qv
          have hB9 : ∀ n, BelC wr (wr.drewN n) := fun n => below_drewN (Below.refl _ wr) n
          clear hown' f1 f2 hv hv' hvs hvs' hz
          go_wp2_with fail
          go_region_held3 (fun V => V.cell? ⟨g5, k * 4, none⟩ = some (.string a) ∧ V.cell? ⟨g5, k * 4 + 1, none⟩ = some (.string vb) ∧ V.cell? ⟨bb, o + k, none⟩ = some (.string a) ∧ V.cell? ⟨bb', o' + k, none⟩ = some (.string b) ∧ BelC wr V) (first | exact ⟨d0, d1, d2, d3, hB9 1⟩ | exact st4_next ‹_› d0 d1 d2 d3 (hB9 _) | (go_split_ands; exact st4_next ‹_› ‹_› ‹_› ‹_› ‹_› ‹_›)) (first
            | (go_at_call 9; (with_reducible refine (qv _ ?_).mono ?_); (first | assumption | exact hB9 _ | (go_split_ands; assumption)); rintro e w9 ⟨rfl, b9⟩))
          all_goals (
            have hb9 : Below w3.heap.size w3 w9 := hb.trans (Below.mono (show Below wr.heap.size wr w9 from belc_go b9 (hB9 _)) hb.size)
            go_wp2
            go_roundw
            case rel => exact ⟨k + 1, by omega, by go_num, hb9⟩
            case measure => simp [intOf]; omega)
        · obtain rfl : k = ns.length := by omega
          have hlt' : ¬ (ns.length : Int) < (ns.length : Int) := by omega
          go_wp2
          go_ret
          exact ⟨rfl, D4⟩
end Go.Proofs.YtcigfmnkfelhjaaDoor
