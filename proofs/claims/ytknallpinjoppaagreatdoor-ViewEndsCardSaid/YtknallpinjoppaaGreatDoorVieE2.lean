/- The walk of ViewEnds, run by the abstract machine in pieces: the closed statement answers true, whatever the memory. -/
import Derived.Test.YtknallpinjoppaaGreatDoorVieD
namespace Go.Proofs.YtknallpinjoppaaGreatDoor
open Go.RowKit Go.Proofs.YtknallpinjoppaaGreatDoor.Am
set_option maxRecDepth 100000
theorem vae7 : prC [0] [] (aCode Tryz.prog vaGl vaR 1000000 vac5 (Ck.st 88 0 vak1)) = some (.ret, vak6) := by kernel_rfl
theorem veq0_1e2 : prC [0, 1, 4] [] (aCode Tryz.prog veGl veR 1000000 veq0_1c0 (Ck.st 96 0 veq0_1start)) = some (.normal, veq0_1k1) := by kernel_rfl
theorem veq0_2e7 : prC [4] [] (aCode Tryz.prog veGl veR 1000000 veq0_2c5 (Ck.st 96 0 veq0_2k1)) = some (.ret, veq0_2k6) := by kernel_rfl
theorem veq0_4e2 : prC [0, 1, 4] [] (aCode Tryz.prog veGl veR 1000000 veq0_4c0 (Ck.st 96 0 veq0_4start)) = some (.normal, veq0_4k1) := by kernel_rfl
theorem veq0_5e7 : prC [4] [] (aCode Tryz.prog veGl veR 1000000 veq0_5c5 (Ck.st 96 0 veq0_5k1)) = some (.ret, veq0_5k6) := by kernel_rfl
theorem veq0_7e2 : prC [0, 1, 4] [] (aCode Tryz.prog veGl veR 1000000 veq0_7c0 (Ck.st 96 0 veq0_7start)) = some (.normal, veq0_7k1) := by kernel_rfl
theorem veq0_8e7 : prC [4] [] (aCode Tryz.prog veGl veR 1000000 veq0_8c5 (Ck.st 96 0 veq0_8k1)) = some (.ret, veq0_8k6) := by kernel_rfl
theorem veq0_10e2 : prC [0, 1, 4] [] (aCode Tryz.prog veGl veR 1000000 veq0_10c0 (Ck.st 96 0 veq0_10start)) = some (.normal, veq0_10k1) := by kernel_rfl
theorem veq1_0e7 : prC [4] [] (aCode Tryz.prog veGl veR 1000000 veq1_0c5 (Ck.st 96 0 veq1_0k1)) = some (.ret, veq1_0k6) := by kernel_rfl
theorem veq1_2e2 : prC [0, 1, 4] [] (aCode Tryz.prog veGl veR 1000000 veq1_2c0 (Ck.st 96 0 veq1_2start)) = some (.normal, veq1_2k1) := by kernel_rfl
theorem veq1_3e7 : prC [4] [] (aCode Tryz.prog veGl veR 1000000 veq1_3c5 (Ck.st 96 0 veq1_3k1)) = some (.ret, veq1_3k6) := by kernel_rfl
theorem veq1_5e2 : prC [0, 1, 4] [] (aCode Tryz.prog veGl veR 1000000 veq1_5c0 (Ck.st 96 0 veq1_5start)) = some (.normal, veq1_5k1) := by kernel_rfl
theorem veq1_6e7 : prC [4] [] (aCode Tryz.prog veGl veR 1000000 veq1_6c5 (Ck.st 96 0 veq1_6k1)) = some (.ret, veq1_6k6) := by kernel_rfl
theorem veq1_8e2 : prC [0, 1, 4] [] (aCode Tryz.prog veGl veR 1000000 veq1_8c0 (Ck.st 96 0 veq1_8start)) = some (.normal, veq1_8k1) := by kernel_rfl
theorem veq1_9e7 : prC [4] [] (aCode Tryz.prog veGl veR 1000000 veq1_9c5 (Ck.st 96 0 veq1_9k1)) = some (.ret, veq1_9k6) := by kernel_rfl
theorem veq2_0e2 : prC [0, 1, 4] [] (aCode Tryz.prog veGl veR 1000000 veq2_0c0 (Ck.st 96 0 veq2_0start)) = some (.normal, veq2_0k1) := by kernel_rfl
theorem veq2_1e7 : prC [4] [] (aCode Tryz.prog veGl veR 1000000 veq2_1c5 (Ck.st 96 0 veq2_1k1)) = some (.ret, veq2_1k6) := by kernel_rfl
theorem veq2_3e2 : prC [0, 1, 4] [] (aCode Tryz.prog veGl veR 1000000 veq2_3c0 (Ck.st 96 0 veq2_3start)) = some (.normal, veq2_3k1) := by kernel_rfl
theorem veq2_4e7 : prC [4] [] (aCode Tryz.prog veGl veR 1000000 veq2_4c5 (Ck.st 96 0 veq2_4k1)) = some (.ret, veq2_4k6) := by kernel_rfl
theorem veq2_6e2 : prC [0, 1, 4] [] (aCode Tryz.prog veGl veR 1000000 veq2_6c0 (Ck.st 96 0 veq2_6start)) = some (.normal, veq2_6k1) := by kernel_rfl
theorem veq2_7e7 : prC [4] [] (aCode Tryz.prog veGl veR 1000000 veq2_7c5 (Ck.st 96 0 veq2_7k1)) = some (.ret, veq2_7k6) := by kernel_rfl
theorem veq2_9e2 : prC [0, 1, 4] [] (aCode Tryz.prog veGl veR 1000000 veq2_9c0 (Ck.st 96 0 veq2_9start)) = some (.normal, veq2_9k1) := by kernel_rfl
theorem veq2_10e7 : prC [4] [] (aCode Tryz.prog veGl veR 1000000 veq2_10c5 (Ck.st 96 0 veq2_10k1)) = some (.ret, veq2_10k6) := by kernel_rfl
theorem veq3_1e2 : prC [0, 1, 4] [] (aCode Tryz.prog veGl veR 1000000 veq3_1c0 (Ck.st 96 0 veq3_1start)) = some (.normal, veq3_1k1) := by kernel_rfl
theorem veq3_2e7 : prC [4] [] (aCode Tryz.prog veGl veR 1000000 veq3_2c5 (Ck.st 96 0 veq3_2k1)) = some (.ret, veq3_2k6) := by kernel_rfl
theorem veq3_4e2 : prC [0, 1, 4] [] (aCode Tryz.prog veGl veR 1000000 veq3_4c0 (Ck.st 96 0 veq3_4start)) = some (.normal, veq3_4k1) := by kernel_rfl
theorem veq3_5e7 : prC [4] [] (aCode Tryz.prog veGl veR 1000000 veq3_5c5 (Ck.st 96 0 veq3_5k1)) = some (.ret, veq3_5k6) := by kernel_rfl
theorem veq3_7e2 : prC [0, 1, 4] [] (aCode Tryz.prog veGl veR 1000000 veq3_7c0 (Ck.st 96 0 veq3_7start)) = some (.normal, veq3_7k1) := by kernel_rfl
theorem veq3_8e7 : prC [4] [] (aCode Tryz.prog veGl veR 1000000 veq3_8c5 (Ck.st 96 0 veq3_8k1)) = some (.ret, veq3_8k6) := by kernel_rfl
theorem veq3_10e2 : prC [0, 1, 4] [] (aCode Tryz.prog veGl veR 1000000 veq3_10c0 (Ck.st 96 0 veq3_10start)) = some (.normal, veq3_10k1) := by kernel_rfl
theorem veq4_0e7 : prC [4] [] (aCode Tryz.prog veGl veR 1000000 veq4_0c5 (Ck.st 96 0 veq4_0k1)) = some (.ret, veq4_0k6) := by kernel_rfl
theorem veq4_2e2 : prC [0, 1, 4] [] (aCode Tryz.prog veGl veR 1000000 veq4_2c0 (Ck.st 96 0 veq4_2start)) = some (.normal, veq4_2k1) := by kernel_rfl
theorem veq4_3e7 : prC [4] [] (aCode Tryz.prog veGl veR 1000000 veq4_3c5 (Ck.st 96 0 veq4_3k1)) = some (.ret, veq4_3k6) := by kernel_rfl
theorem veq4_5e2 : prC [0, 1, 4] [] (aCode Tryz.prog veGl veR 1000000 veq4_5c0 (Ck.st 96 0 veq4_5start)) = some (.normal, veq4_5k1) := by kernel_rfl
theorem veq4_6e8 : prC [0, 1, 4] [] (aCode Tryz.prog veGl veR 1000000 veq4_6c6 (Ck.st 96 0 veq4_6k1)) = some (.normal, veq4_6k7) := by kernel_rfl
theorem veq4_7e7 : prC [4] [] (aCode Tryz.prog veGl veR 1000000 veq4_7c5 (Ck.st 96 0 veq4_7k1)) = some (.ret, veq4_7k6) := by kernel_rfl
theorem veq4_9e2 : prC [0, 1, 4] [] (aCode Tryz.prog veGl veR 1000000 veq4_9c0 (Ck.st 96 0 veq4_9start)) = some (.normal, veq4_9k1) := by kernel_rfl
theorem veq4_10e7 : prC [4] [] (aCode Tryz.prog veGl veR 1000000 veq4_10c5 (Ck.st 96 0 veq4_10k1)) = some (.ret, veq4_10k6) := by kernel_rfl
theorem veq5_1e2 : prC [0, 1, 4] [] (aCode Tryz.prog veGl veR 1000000 veq5_1c0 (Ck.st 96 0 veq5_1start)) = some (.normal, veq5_1k1) := by kernel_rfl
theorem veq5_2e7 : prC [4] [] (aCode Tryz.prog veGl veR 1000000 veq5_2c5 (Ck.st 96 0 veq5_2k1)) = some (.ret, veq5_2k6) := by kernel_rfl
theorem veq5_4e2 : prC [0, 1, 4] [] (aCode Tryz.prog veGl veR 1000000 veq5_4c0 (Ck.st 96 0 veq5_4start)) = some (.normal, veq5_4k1) := by kernel_rfl
theorem veq5_5e7 : prC [4] [] (aCode Tryz.prog veGl veR 1000000 veq5_5c5 (Ck.st 96 0 veq5_5k1)) = some (.ret, veq5_5k6) := by kernel_rfl
theorem veq5_7e2 : prC [0, 1, 4] [] (aCode Tryz.prog veGl veR 1000000 veq5_7c0 (Ck.st 96 0 veq5_7start)) = some (.normal, veq5_7k1) := by kernel_rfl
theorem veq5_8e7 : prC [4] [] (aCode Tryz.prog veGl veR 1000000 veq5_8c5 (Ck.st 96 0 veq5_8k1)) = some (.ret, veq5_8k6) := by kernel_rfl
theorem veq5_10e2 : prC [0, 1, 4] [] (aCode Tryz.prog veGl veR 1000000 veq5_10c0 (Ck.st 96 0 veq5_10start)) = some (.normal, veq5_10k1) := by kernel_rfl
end Go.Proofs.YtknallpinjoppaaGreatDoor
