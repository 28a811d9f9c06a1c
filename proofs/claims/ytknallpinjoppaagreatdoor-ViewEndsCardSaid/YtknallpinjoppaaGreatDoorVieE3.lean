/- The walk of ViewEnds, run by the abstract machine in pieces: the closed statement answers true, whatever the memory. -/
import Derived.Test.YtknallpinjoppaaGreatDoorVieD
namespace Go.Proofs.YtknallpinjoppaaGreatDoor
open Go.RowKit Go.Proofs.YtknallpinjoppaaGreatDoor.Am
set_option maxRecDepth 100000
theorem veq0_0e2 : prC [0, 1, 4] [] (aCode Tryz.prog veGl veR 1000000 veq0_0c0 (Ck.st 96 0 veq0_0start)) = some (.normal, veq0_0k1) := by kernel_rfl
theorem veq0_1e7 : prC [4] [] (aCode Tryz.prog veGl veR 1000000 veq0_1c5 (Ck.st 96 0 veq0_1k1)) = some (.ret, veq0_1k6) := by kernel_rfl
theorem veq0_3e2 : prC [0, 1, 4] [] (aCode Tryz.prog veGl veR 1000000 veq0_3c0 (Ck.st 96 0 veq0_3start)) = some (.normal, veq0_3k1) := by kernel_rfl
theorem veq0_4e7 : prC [4] [] (aCode Tryz.prog veGl veR 1000000 veq0_4c5 (Ck.st 96 0 veq0_4k1)) = some (.ret, veq0_4k6) := by kernel_rfl
theorem veq0_6e2 : prC [0, 1, 4] [] (aCode Tryz.prog veGl veR 1000000 veq0_6c0 (Ck.st 96 0 veq0_6start)) = some (.normal, veq0_6k1) := by kernel_rfl
theorem veq0_7e7 : prC [4] [] (aCode Tryz.prog veGl veR 1000000 veq0_7c5 (Ck.st 96 0 veq0_7k1)) = some (.ret, veq0_7k6) := by kernel_rfl
theorem veq0_9e2 : prC [0, 1, 4] [] (aCode Tryz.prog veGl veR 1000000 veq0_9c0 (Ck.st 96 0 veq0_9start)) = some (.normal, veq0_9k1) := by kernel_rfl
theorem veq0_10e7 : prC [4] [] (aCode Tryz.prog veGl veR 1000000 veq0_10c5 (Ck.st 96 0 veq0_10k1)) = some (.ret, veq0_10k6) := by kernel_rfl
theorem veq1_1e2 : prC [0, 1, 4] [] (aCode Tryz.prog veGl veR 1000000 veq1_1c0 (Ck.st 96 0 veq1_1start)) = some (.normal, veq1_1k1) := by kernel_rfl
theorem veq1_2e7 : prC [4] [] (aCode Tryz.prog veGl veR 1000000 veq1_2c5 (Ck.st 96 0 veq1_2k1)) = some (.ret, veq1_2k6) := by kernel_rfl
theorem veq1_4e2 : prC [0, 1, 4] [] (aCode Tryz.prog veGl veR 1000000 veq1_4c0 (Ck.st 96 0 veq1_4start)) = some (.normal, veq1_4k1) := by kernel_rfl
theorem veq1_5e7 : prC [4] [] (aCode Tryz.prog veGl veR 1000000 veq1_5c5 (Ck.st 96 0 veq1_5k1)) = some (.ret, veq1_5k6) := by kernel_rfl
theorem veq1_7e2 : prC [0, 1, 4] [] (aCode Tryz.prog veGl veR 1000000 veq1_7c0 (Ck.st 96 0 veq1_7start)) = some (.normal, veq1_7k1) := by kernel_rfl
theorem veq1_8e7 : prC [4] [] (aCode Tryz.prog veGl veR 1000000 veq1_8c5 (Ck.st 96 0 veq1_8k1)) = some (.ret, veq1_8k6) := by kernel_rfl
theorem veq1_10e2 : prC [0, 1, 4] [] (aCode Tryz.prog veGl veR 1000000 veq1_10c0 (Ck.st 96 0 veq1_10start)) = some (.normal, veq1_10k1) := by kernel_rfl
theorem veq2_0e7 : prC [4] [] (aCode Tryz.prog veGl veR 1000000 veq2_0c5 (Ck.st 96 0 veq2_0k1)) = some (.ret, veq2_0k6) := by kernel_rfl
theorem veq2_2e2 : prC [0, 1, 4] [] (aCode Tryz.prog veGl veR 1000000 veq2_2c0 (Ck.st 96 0 veq2_2start)) = some (.normal, veq2_2k1) := by kernel_rfl
theorem veq2_3e7 : prC [4] [] (aCode Tryz.prog veGl veR 1000000 veq2_3c5 (Ck.st 96 0 veq2_3k1)) = some (.ret, veq2_3k6) := by kernel_rfl
theorem veq2_5e2 : prC [0, 1, 4] [] (aCode Tryz.prog veGl veR 1000000 veq2_5c0 (Ck.st 96 0 veq2_5start)) = some (.normal, veq2_5k1) := by kernel_rfl
theorem veq2_6e7 : prC [4] [] (aCode Tryz.prog veGl veR 1000000 veq2_6c5 (Ck.st 96 0 veq2_6k1)) = some (.ret, veq2_6k6) := by kernel_rfl
theorem veq2_8e2 : prC [0, 1, 4] [] (aCode Tryz.prog veGl veR 1000000 veq2_8c0 (Ck.st 96 0 veq2_8start)) = some (.normal, veq2_8k1) := by kernel_rfl
theorem veq2_9e7 : prC [4] [] (aCode Tryz.prog veGl veR 1000000 veq2_9c5 (Ck.st 96 0 veq2_9k1)) = some (.ret, veq2_9k6) := by kernel_rfl
theorem veq3_0e2 : prC [0, 1, 4] [] (aCode Tryz.prog veGl veR 1000000 veq3_0c0 (Ck.st 96 0 veq3_0start)) = some (.normal, veq3_0k1) := by kernel_rfl
theorem veq3_1e7 : prC [4] [] (aCode Tryz.prog veGl veR 1000000 veq3_1c5 (Ck.st 96 0 veq3_1k1)) = some (.ret, veq3_1k6) := by kernel_rfl
theorem veq3_3e2 : prC [0, 1, 4] [] (aCode Tryz.prog veGl veR 1000000 veq3_3c0 (Ck.st 96 0 veq3_3start)) = some (.normal, veq3_3k1) := by kernel_rfl
theorem veq3_4e7 : prC [4] [] (aCode Tryz.prog veGl veR 1000000 veq3_4c5 (Ck.st 96 0 veq3_4k1)) = some (.ret, veq3_4k6) := by kernel_rfl
theorem veq3_6e2 : prC [0, 1, 4] [] (aCode Tryz.prog veGl veR 1000000 veq3_6c0 (Ck.st 96 0 veq3_6start)) = some (.normal, veq3_6k1) := by kernel_rfl
theorem veq3_7e7 : prC [4] [] (aCode Tryz.prog veGl veR 1000000 veq3_7c5 (Ck.st 96 0 veq3_7k1)) = some (.ret, veq3_7k6) := by kernel_rfl
theorem veq3_9e2 : prC [0, 1, 4] [] (aCode Tryz.prog veGl veR 1000000 veq3_9c0 (Ck.st 96 0 veq3_9start)) = some (.normal, veq3_9k1) := by kernel_rfl
theorem veq3_10e7 : prC [4] [] (aCode Tryz.prog veGl veR 1000000 veq3_10c5 (Ck.st 96 0 veq3_10k1)) = some (.ret, veq3_10k6) := by kernel_rfl
theorem veq4_1e2 : prC [0, 1, 4] [] (aCode Tryz.prog veGl veR 1000000 veq4_1c0 (Ck.st 96 0 veq4_1start)) = some (.normal, veq4_1k1) := by kernel_rfl
theorem veq4_2e7 : prC [4] [] (aCode Tryz.prog veGl veR 1000000 veq4_2c5 (Ck.st 96 0 veq4_2k1)) = some (.ret, veq4_2k6) := by kernel_rfl
theorem veq4_4e2 : prC [0, 1, 4] [] (aCode Tryz.prog veGl veR 1000000 veq4_4c0 (Ck.st 96 0 veq4_4start)) = some (.normal, veq4_4k1) := by kernel_rfl
theorem veq4_5e7 : prC [4] [] (aCode Tryz.prog veGl veR 1000000 veq4_5c5 (Ck.st 96 0 veq4_5k1)) = some (.ret, veq4_5k6) := by kernel_rfl
theorem veq4_6e13 : prC [4] [] (aCode Tryz.prog veGl veR 1000000 veq4_6c11 (Ck.st 96 0 veq4_6k7)) = some (.ret, veq4_6k12) := by kernel_rfl
theorem veq4_8e2 : prC [0, 1, 4] [] (aCode Tryz.prog veGl veR 1000000 veq4_8c0 (Ck.st 96 0 veq4_8start)) = some (.normal, veq4_8k1) := by kernel_rfl
theorem veq4_9e7 : prC [4] [] (aCode Tryz.prog veGl veR 1000000 veq4_9c5 (Ck.st 96 0 veq4_9k1)) = some (.ret, veq4_9k6) := by kernel_rfl
theorem veq5_0e2 : prC [0, 1, 4] [] (aCode Tryz.prog veGl veR 1000000 veq5_0c0 (Ck.st 96 0 veq5_0start)) = some (.normal, veq5_0k1) := by kernel_rfl
theorem veq5_1e7 : prC [4] [] (aCode Tryz.prog veGl veR 1000000 veq5_1c5 (Ck.st 96 0 veq5_1k1)) = some (.ret, veq5_1k6) := by kernel_rfl
theorem veq5_3e2 : prC [0, 1, 4] [] (aCode Tryz.prog veGl veR 1000000 veq5_3c0 (Ck.st 96 0 veq5_3start)) = some (.normal, veq5_3k1) := by kernel_rfl
theorem veq5_4e7 : prC [4] [] (aCode Tryz.prog veGl veR 1000000 veq5_4c5 (Ck.st 96 0 veq5_4k1)) = some (.ret, veq5_4k6) := by kernel_rfl
theorem veq5_6e2 : prC [0, 1, 4] [] (aCode Tryz.prog veGl veR 1000000 veq5_6c0 (Ck.st 96 0 veq5_6start)) = some (.normal, veq5_6k1) := by kernel_rfl
theorem veq5_7e7 : prC [4] [] (aCode Tryz.prog veGl veR 1000000 veq5_7c5 (Ck.st 96 0 veq5_7k1)) = some (.ret, veq5_7k6) := by kernel_rfl
theorem veq5_9e2 : prC [0, 1, 4] [] (aCode Tryz.prog veGl veR 1000000 veq5_9c0 (Ck.st 96 0 veq5_9start)) = some (.normal, veq5_9k1) := by kernel_rfl
theorem veq5_10e7 : prC [4] [] (aCode Tryz.prog veGl veR 1000000 veq5_10c5 (Ck.st 96 0 veq5_10k1)) = some (.ret, veq5_10k6) := by kernel_rfl
end Go.Proofs.YtknallpinjoppaaGreatDoor
