/- The walk of ViewEnds, run by the abstract machine in pieces: the closed statement answers true, whatever the memory. -/
import Derived.Test.YtknallpinjoppaaGreatDoorVieD
namespace Go.Proofs.YtknallpinjoppaaGreatDoor
open Go.RowKit Go.Proofs.YtknallpinjoppaaGreatDoor.Am
set_option maxRecDepth 100000
theorem vae2 : prC [0] [] (aCode Tryz.prog vaGl vaR 1000000 vac0 (Ck.st 88 0 vastart)) = some (.normal, vak1) := by kernel_rfl
theorem veq0_0e7 : prC [4] [] (aCode Tryz.prog veGl veR 1000000 veq0_0c5 (Ck.st 96 0 veq0_0k1)) = some (.ret, veq0_0k6) := by kernel_rfl
theorem veq0_2e2 : prC [0, 1, 4] [] (aCode Tryz.prog veGl veR 1000000 veq0_2c0 (Ck.st 96 0 veq0_2start)) = some (.normal, veq0_2k1) := by kernel_rfl
theorem veq0_3e7 : prC [4] [] (aCode Tryz.prog veGl veR 1000000 veq0_3c5 (Ck.st 96 0 veq0_3k1)) = some (.ret, veq0_3k6) := by kernel_rfl
theorem veq0_5e2 : prC [0, 1, 4] [] (aCode Tryz.prog veGl veR 1000000 veq0_5c0 (Ck.st 96 0 veq0_5start)) = some (.normal, veq0_5k1) := by kernel_rfl
theorem veq0_6e7 : prC [4] [] (aCode Tryz.prog veGl veR 1000000 veq0_6c5 (Ck.st 96 0 veq0_6k1)) = some (.ret, veq0_6k6) := by kernel_rfl
theorem veq0_8e2 : prC [0, 1, 4] [] (aCode Tryz.prog veGl veR 1000000 veq0_8c0 (Ck.st 96 0 veq0_8start)) = some (.normal, veq0_8k1) := by kernel_rfl
theorem veq0_9e7 : prC [4] [] (aCode Tryz.prog veGl veR 1000000 veq0_9c5 (Ck.st 96 0 veq0_9k1)) = some (.ret, veq0_9k6) := by kernel_rfl
theorem veq1_0e2 : prC [0, 1, 4] [] (aCode Tryz.prog veGl veR 1000000 veq1_0c0 (Ck.st 96 0 veq1_0start)) = some (.normal, veq1_0k1) := by kernel_rfl
theorem veq1_1e7 : prC [4] [] (aCode Tryz.prog veGl veR 1000000 veq1_1c5 (Ck.st 96 0 veq1_1k1)) = some (.ret, veq1_1k6) := by kernel_rfl
theorem veq1_3e2 : prC [0, 1, 4] [] (aCode Tryz.prog veGl veR 1000000 veq1_3c0 (Ck.st 96 0 veq1_3start)) = some (.normal, veq1_3k1) := by kernel_rfl
theorem veq1_4e7 : prC [4] [] (aCode Tryz.prog veGl veR 1000000 veq1_4c5 (Ck.st 96 0 veq1_4k1)) = some (.ret, veq1_4k6) := by kernel_rfl
theorem veq1_6e2 : prC [0, 1, 4] [] (aCode Tryz.prog veGl veR 1000000 veq1_6c0 (Ck.st 96 0 veq1_6start)) = some (.normal, veq1_6k1) := by kernel_rfl
theorem veq1_7e7 : prC [4] [] (aCode Tryz.prog veGl veR 1000000 veq1_7c5 (Ck.st 96 0 veq1_7k1)) = some (.ret, veq1_7k6) := by kernel_rfl
theorem veq1_9e2 : prC [0, 1, 4] [] (aCode Tryz.prog veGl veR 1000000 veq1_9c0 (Ck.st 96 0 veq1_9start)) = some (.normal, veq1_9k1) := by kernel_rfl
theorem veq1_10e7 : prC [4] [] (aCode Tryz.prog veGl veR 1000000 veq1_10c5 (Ck.st 96 0 veq1_10k1)) = some (.ret, veq1_10k6) := by kernel_rfl
theorem veq2_1e2 : prC [0, 1, 4] [] (aCode Tryz.prog veGl veR 1000000 veq2_1c0 (Ck.st 96 0 veq2_1start)) = some (.normal, veq2_1k1) := by kernel_rfl
theorem veq2_2e7 : prC [4] [] (aCode Tryz.prog veGl veR 1000000 veq2_2c5 (Ck.st 96 0 veq2_2k1)) = some (.ret, veq2_2k6) := by kernel_rfl
theorem veq2_4e2 : prC [0, 1, 4] [] (aCode Tryz.prog veGl veR 1000000 veq2_4c0 (Ck.st 96 0 veq2_4start)) = some (.normal, veq2_4k1) := by kernel_rfl
theorem veq2_5e7 : prC [4] [] (aCode Tryz.prog veGl veR 1000000 veq2_5c5 (Ck.st 96 0 veq2_5k1)) = some (.ret, veq2_5k6) := by kernel_rfl
theorem veq2_7e2 : prC [0, 1, 4] [] (aCode Tryz.prog veGl veR 1000000 veq2_7c0 (Ck.st 96 0 veq2_7start)) = some (.normal, veq2_7k1) := by kernel_rfl
theorem veq2_8e7 : prC [4] [] (aCode Tryz.prog veGl veR 1000000 veq2_8c5 (Ck.st 96 0 veq2_8k1)) = some (.ret, veq2_8k6) := by kernel_rfl
theorem veq2_10e2 : prC [0, 1, 4] [] (aCode Tryz.prog veGl veR 1000000 veq2_10c0 (Ck.st 96 0 veq2_10start)) = some (.normal, veq2_10k1) := by kernel_rfl
theorem veq3_0e7 : prC [4] [] (aCode Tryz.prog veGl veR 1000000 veq3_0c5 (Ck.st 96 0 veq3_0k1)) = some (.ret, veq3_0k6) := by kernel_rfl
theorem veq3_2e2 : prC [0, 1, 4] [] (aCode Tryz.prog veGl veR 1000000 veq3_2c0 (Ck.st 96 0 veq3_2start)) = some (.normal, veq3_2k1) := by kernel_rfl
theorem veq3_3e7 : prC [4] [] (aCode Tryz.prog veGl veR 1000000 veq3_3c5 (Ck.st 96 0 veq3_3k1)) = some (.ret, veq3_3k6) := by kernel_rfl
theorem veq3_5e2 : prC [0, 1, 4] [] (aCode Tryz.prog veGl veR 1000000 veq3_5c0 (Ck.st 96 0 veq3_5start)) = some (.normal, veq3_5k1) := by kernel_rfl
theorem veq3_6e7 : prC [4] [] (aCode Tryz.prog veGl veR 1000000 veq3_6c5 (Ck.st 96 0 veq3_6k1)) = some (.ret, veq3_6k6) := by kernel_rfl
theorem veq3_8e2 : prC [0, 1, 4] [] (aCode Tryz.prog veGl veR 1000000 veq3_8c0 (Ck.st 96 0 veq3_8start)) = some (.normal, veq3_8k1) := by kernel_rfl
theorem veq3_9e7 : prC [4] [] (aCode Tryz.prog veGl veR 1000000 veq3_9c5 (Ck.st 96 0 veq3_9k1)) = some (.ret, veq3_9k6) := by kernel_rfl
theorem veq4_0e2 : prC [0, 1, 4] [] (aCode Tryz.prog veGl veR 1000000 veq4_0c0 (Ck.st 96 0 veq4_0start)) = some (.normal, veq4_0k1) := by kernel_rfl
theorem veq4_1e7 : prC [4] [] (aCode Tryz.prog veGl veR 1000000 veq4_1c5 (Ck.st 96 0 veq4_1k1)) = some (.ret, veq4_1k6) := by kernel_rfl
theorem veq4_3e2 : prC [0, 1, 4] [] (aCode Tryz.prog veGl veR 1000000 veq4_3c0 (Ck.st 96 0 veq4_3start)) = some (.normal, veq4_3k1) := by kernel_rfl
theorem veq4_4e7 : prC [4] [] (aCode Tryz.prog veGl veR 1000000 veq4_4c5 (Ck.st 96 0 veq4_4k1)) = some (.ret, veq4_4k6) := by kernel_rfl
theorem veq4_6e2 : prC [0, 1, 4] [] (aCode Tryz.prog veGl veR 1000000 veq4_6c0 (Ck.st 96 0 veq4_6start)) = some (.normal, veq4_6k1) := by kernel_rfl
theorem veq4_7e2 : prC [0, 1, 4] [] (aCode Tryz.prog veGl veR 1000000 veq4_7c0 (Ck.st 96 0 veq4_7start)) = some (.normal, veq4_7k1) := by kernel_rfl
theorem veq4_8e7 : prC [4] [] (aCode Tryz.prog veGl veR 1000000 veq4_8c5 (Ck.st 96 0 veq4_8k1)) = some (.ret, veq4_8k6) := by kernel_rfl
theorem veq4_10e2 : prC [0, 1, 4] [] (aCode Tryz.prog veGl veR 1000000 veq4_10c0 (Ck.st 96 0 veq4_10start)) = some (.normal, veq4_10k1) := by kernel_rfl
theorem veq5_0e7 : prC [4] [] (aCode Tryz.prog veGl veR 1000000 veq5_0c5 (Ck.st 96 0 veq5_0k1)) = some (.ret, veq5_0k6) := by kernel_rfl
theorem veq5_2e2 : prC [0, 1, 4] [] (aCode Tryz.prog veGl veR 1000000 veq5_2c0 (Ck.st 96 0 veq5_2start)) = some (.normal, veq5_2k1) := by kernel_rfl
theorem veq5_3e7 : prC [4] [] (aCode Tryz.prog veGl veR 1000000 veq5_3c5 (Ck.st 96 0 veq5_3k1)) = some (.ret, veq5_3k6) := by kernel_rfl
theorem veq5_5e2 : prC [0, 1, 4] [] (aCode Tryz.prog veGl veR 1000000 veq5_5c0 (Ck.st 96 0 veq5_5start)) = some (.normal, veq5_5k1) := by kernel_rfl
theorem veq5_6e7 : prC [4] [] (aCode Tryz.prog veGl veR 1000000 veq5_6c5 (Ck.st 96 0 veq5_6k1)) = some (.ret, veq5_6k6) := by kernel_rfl
theorem veq5_8e2 : prC [0, 1, 4] [] (aCode Tryz.prog veGl veR 1000000 veq5_8c0 (Ck.st 96 0 veq5_8start)) = some (.normal, veq5_8k1) := by kernel_rfl
theorem veq5_9e7 : prC [4] [] (aCode Tryz.prog veGl veR 1000000 veq5_9c5 (Ck.st 96 0 veq5_9k1)) = some (.ret, veq5_9k6) := by kernel_rfl
end Go.Proofs.YtknallpinjoppaaGreatDoor
