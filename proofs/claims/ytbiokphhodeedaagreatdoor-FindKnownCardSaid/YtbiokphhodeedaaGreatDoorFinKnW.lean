/- The walk of FindKnown, run by the abstract machine in pieces: the closed statement answers true, whatever the memory, where the library's variable MaxLen holds some int. -/
import Derived.Test.YtbiokphhodeedaaGreatDoorFinE1
import Derived.Test.YtbiokphhodeedaaGreatDoorFinE2
import Derived.Test.YtbiokphhodeedaaGreatDoorFinE3
namespace Go.Proofs.YtbiokphhodeedaaGreatDoor
open Go.RowKit Go.Proofs.YtbiokphhodeedaaGreatDoor.Am
set_option maxRecDepth 100000
theorem finp3 {n0 : Nat} : Pc finGl 186 64 n0 finstart finc0 .normal fink1 := Pc.run finMix finRa finRok fine2
theorem finp9 {n0 : Nat} : Pc finGl 186 64 n0 fink1 finc6 .normal fink7 := Pc.run finMix finRa finRok fine8
theorem finp15 {n0 : Nat} : Pc finGl 186 64 n0 fink7 finc12 .normal fink13 := Pc.run finMix finRa finRok fine14
theorem finp21 {n0 : Nat} : Pc finGl 186 64 n0 fink13 finc18 .normal fink19 := Pc.run finMix finRa finRok fine20
theorem finp27 {n0 : Nat} : Pc finGl 186 64 n0 fink19 finc24 .normal fink25 := Pc.run finMix finRa finRok fine26
theorem finp34 {n0 : Nat} : Pc finGl 186 64 n0 fink25 finc31 .normal fink32 := Pc.run finMix finRa finRok fine33
theorem finp53 {n0 : Nat} : Pc finGl 186 64 n0 fink49 finc38 (.exit 0) fink51 := Pc.run finMix finRa finRok fine52
theorem finp54 {n0 : Nat} : Pc finGl 186 64 n0 fink32 finc37 (.exit 0) fink51 := Pc.loop (c := finc38) (n := 23) (by kernel_rfl) (Pr.run (n := 18) finMix finRa finRok (k := 5) fine40 (Pr.run (n := 12) finMix finRa finRok (k := 6) fine42 (Pr.run (n := 7) finMix finRa finRok (k := 5) fine44 (Pr.run (n := 4) finMix finRa finRok (k := 3) fine46 (Pr.run (n := 2) finMix finRa finRok (k := 2) fine48 (Pr.run (n := 1) finMix finRa finRok (k := 1) fine50 (Pr.last (fun h => by cases h) finp53)))))))
theorem finp55 {n0 : Nat} : Pc finGl 186 64 n0 fink32 finc36 .normal fink51 := Pc.block (id := 0) (b := finc37) (x := (.exit 0)) (by kernel_rfl) (by kernel_rfl) finp54
theorem finp35 {n0 : Nat} : Pc finGl 186 64 n0 fink25 finc30 .normal fink51 := Pc.seq (a := finc31) (b := finc36) (by kernel_rfl) finp34 finp55
theorem finp62 {n0 : Nat} : Pc finGl 186 64 n0 fink51 finc59 .normal fink60 := Pc.run finMix finRa finRok fine61
theorem finp79 {n0 : Nat} : Pc finGl 186 64 n0 fink75 finc66 (.exit 2) fink77 := Pc.run finMix finRa finRok fine78
theorem finp80 {n0 : Nat} : Pc finGl 186 64 n0 fink60 finc65 (.exit 2) fink77 := Pc.loop (c := finc66) (n := 18) (by kernel_rfl) (Pr.run (n := 15) finMix finRa finRok (k := 3) fine68 (Pr.run (n := 11) finMix finRa finRok (k := 4) fine70 (Pr.run (n := 7) finMix finRa finRok (k := 4) fine72 (Pr.run (n := 3) finMix finRa finRok (k := 4) fine74 (Pr.run (n := 1) finMix finRa finRok (k := 2) fine76 (Pr.last (fun h => by cases h) finp79))))))
theorem finp81 {n0 : Nat} : Pc finGl 186 64 n0 fink60 finc64 .normal fink77 := Pc.block (id := 2) (b := finc65) (x := (.exit 2)) (by kernel_rfl) (by kernel_rfl) finp80
theorem finp63 {n0 : Nat} : Pc finGl 186 64 n0 fink51 finc58 .normal fink77 := Pc.seq (a := finc59) (b := finc64) (by kernel_rfl) finp62 finp81
theorem finp87 {n0 : Nat} : Pc finGl 186 64 n0 fink77 finc84 .normal fink85 := Pc.run finMix finRa finRok fine86
theorem finp93 {n0 : Nat} : Pc finGl 186 64 n0 fink85 finc90 .normal fink91 := Pc.run finMix finRa finRok fine92
theorem finp99 {n0 : Nat} : Pc finGl 186 64 n0 fink91 finc96 .normal fink97 := Pc.run finMix finRa finRok fine98
theorem finp105 {n0 : Nat} : Pc finGl 186 64 n0 fink97 finc102 .normal fink103 := Pc.run finMix finRa finRok fine104
theorem finp111 {n0 : Nat} : Pc finGl 186 64 n0 fink103 finc108 .normal fink109 := Pc.run finMix finRa finRok fine110
theorem finp117 {n0 : Nat} : Pc finGl 186 64 n0 fink109 finc114 .normal fink115 := Pc.run finMix finRa finRok fine116
theorem finp123 {n0 : Nat} : Pc finGl 186 64 n0 fink115 finc120 .normal fink121 := Pc.run finMix finRa finRok fine122
theorem finp134 {n0 : Nat} : Pc finGl 17 64 n0 fink129 finc131 .normal fink132 := Pc.run finMix finRa finRok fine133
theorem finp140 {n0 : Nat} : Pc finGl 17 64 n0 fink132 finc137 .normal fink138 := Pc.run finMix finRa finRok fine139
theorem finp145 {n0 : Nat} : Pc finGl 17 64 n0 fink138 finc142 .ret fink143 := Pc.run finMix finRa finRok fine144
theorem finp141 {n0 : Nat} : Pc finGl 17 64 n0 fink132 finc136 .ret fink143 := Pc.seq (a := finc137) (b := finc142) (by kernel_rfl) finp140 finp145
theorem finp135 {n0 : Nat} : Pc finGl 17 64 n0 fink129 finc130 .ret fink143 := Pc.seq (a := finc131) (b := finc136) (by kernel_rfl) finp134 finp141
theorem finp146 {n0 : Nat} : PCall finGl 64 n0 6 [.sl 5023 164 0 41 4 none] fink127.fams fink127.next (.tuple [.agg [.int .i64 (.ofNat 0), .str [], .str [], .int .i64 (.ofNat 0), .nilsl, .nilsl], .int .i64 (.ofNat 2)]) fink143.fams fink143.next := PCall.of (fn := Tryz.f6) (c := finc130) (nt := 17) (ck := fink143) (vs := [.agg [.int .i64 (.ofNat 0), .str [], .str [], .int .i64 (.ofNat 0), .nilsl, .nilsl], .int .i64 (.ofNat 2)]) Tryz.func6 (by kernel_rfl) (by kernel_rfl) (show Pc finGl 17 64 n0 fink129 finc130 .ret fink143 from finp135) (by first | exact .inl rfl | exact .inr rfl) (by kernel_rfl) (by kernel_rfl)
theorem finp150 {n0 : Nat} : Pc finGl 186 64 n0 fink121 finc126 .normal fink148 := Pc.region (id := idC finc126) (ops := opsC finc126) (by kernel_rfl) (n := 9) (by kernel_rfl) (Ps.cons finRa finRok (n := 2) (k := 7) fine128 (Ps.call (o := opC (opsC finc126) 2) (f := 6) (args := [.sl 5023 164 0 41 4 none]) (v := .tuple [.agg [.int .i64 (.ofNat 0), .str [], .str [], .int .i64 (.ofNat 0), .nilsl, .nilsl], .int .i64 (.ofNat 2)]) (d := 113) (lv := [0, 12, 14, 16, 17, 18, 113]) (live' := fink147.live) (k := 6) (by kernel_rfl) (by kernel_rfl) (by kernel_rfl) (by kernel_rfl) (by kernel_rfl) (by kernel_rfl) finp146 (by kernel_rfl) (ck1 := fink147) rfl (Ps.cons finRa finRok (n := 6) (k := 0) fine149 Ps.nil)))
theorem finp155 {n0 : Nat} : Pc finGl 186 64 n0 fink148 finc152 .ret fink153 := Pc.run finMix finRa finRok fine154
theorem finp151 {n0 : Nat} : Pc finGl 186 64 n0 fink121 finc125 .ret fink153 := Pc.seq (a := finc126) (b := finc152) (by kernel_rfl) finp150 finp155
theorem finp124 {n0 : Nat} : Pc finGl 186 64 n0 fink115 finc119 .ret fink153 := Pc.seq (a := finc120) (b := finc125) (by kernel_rfl) finp123 finp151
theorem finp118 {n0 : Nat} : Pc finGl 186 64 n0 fink109 finc113 .ret fink153 := Pc.seq (a := finc114) (b := finc119) (by kernel_rfl) finp117 finp124
theorem finp112 {n0 : Nat} : Pc finGl 186 64 n0 fink103 finc107 .ret fink153 := Pc.seq (a := finc108) (b := finc113) (by kernel_rfl) finp111 finp118
theorem finp106 {n0 : Nat} : Pc finGl 186 64 n0 fink97 finc101 .ret fink153 := Pc.seq (a := finc102) (b := finc107) (by kernel_rfl) finp105 finp112
theorem finp100 {n0 : Nat} : Pc finGl 186 64 n0 fink91 finc95 .ret fink153 := Pc.seq (a := finc96) (b := finc101) (by kernel_rfl) finp99 finp106
theorem finp94 {n0 : Nat} : Pc finGl 186 64 n0 fink85 finc89 .ret fink153 := Pc.seq (a := finc90) (b := finc95) (by kernel_rfl) finp93 finp100
theorem finp88 {n0 : Nat} : Pc finGl 186 64 n0 fink77 finc83 .ret fink153 := Pc.seq (a := finc84) (b := finc89) (by kernel_rfl) finp87 finp94
theorem finp82 {n0 : Nat} : Pc finGl 186 64 n0 fink51 finc57 .ret fink153 := Pc.seq (a := finc58) (b := finc83) (by kernel_rfl) finp63 finp88
theorem finp56 {n0 : Nat} : Pc finGl 186 64 n0 fink25 finc29 .ret fink153 := Pc.seq (a := finc30) (b := finc57) (by kernel_rfl) finp35 finp82
theorem finp28 {n0 : Nat} : Pc finGl 186 64 n0 fink19 finc23 .ret fink153 := Pc.seq (a := finc24) (b := finc29) (by kernel_rfl) finp27 finp56
theorem finp22 {n0 : Nat} : Pc finGl 186 64 n0 fink13 finc17 .ret fink153 := Pc.seq (a := finc18) (b := finc23) (by kernel_rfl) finp21 finp28
theorem finp16 {n0 : Nat} : Pc finGl 186 64 n0 fink7 finc11 .ret fink153 := Pc.seq (a := finc12) (b := finc17) (by kernel_rfl) finp15 finp22
theorem finp10 {n0 : Nat} : Pc finGl 186 64 n0 fink1 finc5 .ret fink153 := Pc.seq (a := finc6) (b := finc11) (by kernel_rfl) finp9 finp16
theorem finp4 {n0 : Nat} : Pc finGl 186 64 n0 finstart fint0 .ret fink153 := Pc.seq (a := finc0) (b := finc5) (by kernel_rfl) finp3 finp10
theorem finAll (n0 : Nat) : Pc finGl 186 64 n0 (ck0 finGs 64) fint0 .ret fink153 := finp4
theorem finPieces (w : World) (ha : GAll w finGs) : Calls Tryz.prog 3 #[] w fun e w' => e = .returned (.bool true) ∧ Below w.heap.size w w' := known_pieces (fn := Tryz.f3) (c := fint0) (ck := fink153) Tryz.func3 (by kernel_rfl) (by kernel_rfl) finAll (by first | exact .inl rfl | exact .inr rfl) (by kernel_rfl) w ha
theorem finWalk (w : World) (hm : ∃ m, w.cell? ⟨0, 0, none⟩ = some (.int .i64 m)) (_ : 0 < w.heap.size) : Calls Tryz.prog 3 #[] w fun e w' => e = .returned (.bool true) ∧ Below w.heap.size w w' :=
  finPieces w (gAll_one (gAt_int hm))
end Go.Proofs.YtbiokphhodeedaaGreatDoor
