package tests

import (
	"math"
	"slices"
	"testing"

	"loop.example/softwareradio/impl"
)

// nextState returns the output and the next state of a register by division, as the document describes a step.
func nextState(taps int, state int) (int, int) {
	output := state % 2
	state = state / 2
	if output == 1 {
		state = state ^ taps/2
	}
	return output, state
}

// steppedOutputs returns the first outputs of a register and the state after them.
func steppedOutputs(taps int, seed int, n int) ([]int, int) {
	outputs, state := make([]int, n), seed
	for k := range outputs {
		outputs[k], state = nextState(taps, state)
	}
	return outputs, state
}

// seriesOutputs returns the first outputs of a register without its states: they are the coefficients, the lowest power first, of the power series of the seed divided by the generator polynomial.
func seriesOutputs(taps int, seed int, n int) []int {
	outputs := make([]int, n)
	for k := range outputs {
		if k <= degree(taps) {
			outputs[k] = seed >> k & 1
		}
		for j := 1; j <= min(k, degree(taps)); j++ {
			outputs[k] ^= taps >> j & 1 & outputs[k-j]
		}
	}
	return outputs
}

func steppedPeriod(taps int, seed int) int {
	period := 1
	for _, state := nextState(taps, seed); state != seed; period++ {
		_, state = nextState(taps, state)
	}
	return period
}

// seedsOf are the first and the last seed of a register, those next to them, every power of 2 and some between.
func seedsOf(taps int) []int {
	last := 1<<degree(taps) - 1
	list := []int{1, min(2, last), min(3, last), last, max(1, last-1)}
	for place := range degree(taps) {
		list = append(list, 1<<place, 1+int(mixed(taps, place)%uint64(last)))
	}
	return list
}

// notSeedsOf are numbers that are no seed of a register; some of them look like one if only their last digits are kept.
func notSeedsOf(taps int) []int {
	power := 1 << degree(taps)
	return []int{
		0, power, power + 1, 2*power - 1, 2 * power, 3*power + 1, taps, -1, -2, -power, 1 - power, -power - 1,
		1 << 16, 1<<16 + 1, 1 << 17, 1 << 32, 1<<32 + 1, 1<<62 + 1, math.MinInt, math.MinInt + 1, math.MaxInt - 1, math.MaxInt,
	}
}

// shortRegisters calls a test with every register of at most a degree.
func shortRegisters(most int, test func(taps int, seed int)) {
	for taps := 3; taps < 2<<most; taps += 2 {
		for seed := 1; seed < 1<<degree(taps); seed++ {
			test(taps, seed)
		}
	}
}

// someRegisters calls a test with registers of every degree.
func someRegisters(test func(taps int, seed int)) {
	for _, taps := range generators() {
		for _, seed := range seedsOf(taps) {
			test(taps, seed)
		}
	}
}

func TestShiftBitsExamples(t *testing.T) {
	wantInts(t, "19 from 1", impl.ShiftBits(19, 1, 9), []int{1, 1, 1, 1, 0, 1, 0, 1, 1})
	wantInts(t, "19 from 8", impl.ShiftBits(19, 8, 9), []int{0, 0, 0, 1, 1, 1, 1, 0, 1})
	wantInts(t, "19 from 15", impl.ShiftBits(19, 15, 4), []int{1, 0, 1, 0})
	wantInts(t, "25 from 1", impl.ShiftBits(25, 1, 9), []int{1, 0, 0, 1, 1, 0, 1, 0, 1})
	wantInts(t, "3 from 1", impl.ShiftBits(3, 1, 5), []int{1, 1, 1, 1, 1})
	wantInts(t, "5 from 1", impl.ShiftBits(5, 1, 5), []int{1, 0, 1, 0, 1})
	wantInts(t, "5 from 2", impl.ShiftBits(5, 2, 5), []int{0, 1, 0, 1, 0})
	wantInts(t, "5 from 3", impl.ShiftBits(5, 3, 5), []int{1, 1, 1, 1, 1})
	wantInts(t, "7 from 1", impl.ShiftBits(7, 1, 7), []int{1, 1, 0, 1, 1, 0, 1})
	wantInts(t, "1<<16+1 from 1", impl.ShiftBits(1<<16+1, 1, 18), append(append([]int{1}, repeated(0, 15)...), 1, 0))
}

func TestOutputsOfShortRegisters(t *testing.T) {
	shortRegisters(6, func(taps int, seed int) {
		for n := range 20 {
			want, _ := steppedOutputs(taps, seed, n)
			wantInts(t, "outputs", impl.ShiftBits(taps, seed, n), want)
			wantInts(t, "outputs as a series", impl.ShiftBits(taps, seed, n), seriesOutputs(taps, seed, n))
		}
	})
}

func TestOutputsOfAnyDegree(t *testing.T) {
	someRegisters(func(taps int, seed int) {
		for _, n := range []int{0, 1, 15, 16, 17, 63, 64, 65, 300, impl.MaxBits - 1, impl.MaxBits} {
			want, _ := steppedOutputs(taps, seed, n)
			wantInts(t, "outputs", impl.ShiftBits(taps, seed, n), want)
			wantInts(t, "outputs as a series", impl.ShiftBits(taps, seed, n), seriesOutputs(taps, seed, n))
		}
	})
}

// Promise 36.
func TestOutputsBeginEqually(t *testing.T) {
	someRegisters(func(taps int, seed int) {
		longest := impl.ShiftBits(taps, seed, impl.MaxBits)
		if len(longest) != impl.MaxBits || !impl.BitsValid(longest) {
			t.Fatalf("%d from %d: %v", taps, seed, longest)
		}
		for _, n := range bitLengths() {
			wantInts(t, "fewer outputs", impl.ShiftBits(taps, seed, n), longest[:n])
		}
	})
}

// Promise 36, with all registers whose period fits twice into MaxBits outputs: they repeat after the period, and not earlier.
func TestOutputsRepeatAfterPeriod(t *testing.T) {
	shortRegisters(7, func(taps int, seed int) {
		outputs := impl.ShiftBits(taps, seed, impl.MaxBits)
		period := impl.ShiftPeriod(taps, seed)
		wantInts(t, "outputs after a period", outputs[period:], outputs[:impl.MaxBits-period])
		for shorter := 1; shorter < period; shorter++ {
			if slices.Equal(outputs[shorter:], outputs[:impl.MaxBits-shorter]) {
				t.Fatalf("%d from %d repeats after %d, its period is %d", taps, seed, shorter, period)
			}
		}
	})
}

// Promise 36, with registers of every degree that run on from where a list of outputs ends.
func TestOutputsGoOnFromLastState(t *testing.T) {
	for _, taps := range generators() {
		for _, seed := range []int{1, 1<<degree(taps) - 1} {
			period := impl.ShiftPeriod(taps, seed)
			state := seed
			for at := 0; at < period; at += impl.MaxBits {
				n := min(impl.MaxBits, period-at)
				want, next := steppedOutputs(taps, state, n)
				wantInts(t, "outputs in a period", impl.ShiftBits(taps, state, n), want)
				state = next
			}
			if state != seed {
				t.Fatalf("%d from %d is at %d after %d steps", taps, seed, state, period)
			}
		}
	}
}

func TestShiftBitsBoundsNumber(t *testing.T) {
	someRegisters(func(taps int, seed int) {
		if got := impl.ShiftBits(taps, seed, 0); len(got) != 0 {
			t.Fatalf("no outputs of %d from %d are %v", taps, seed, got)
		}
		wantInts(t, "one output", impl.ShiftBits(taps, seed, 1), []int{seed % 2})
		if got := impl.ShiftBits(taps, seed, impl.MaxBits); len(got) != impl.MaxBits {
			t.Fatalf("MaxBits outputs of %d from %d are %d", taps, seed, len(got))
		}
		for _, n := range []int{impl.MaxBits + 1, impl.MaxBits + 2, 2048, 1 << 32, 1<<32 + 1, math.MaxInt, -1, -2, -impl.MaxBits, math.MinInt, math.MinInt + 1} {
			if got := impl.ShiftBits(taps, seed, n); len(got) != 0 {
				t.Fatalf("%d outputs of %d from %d are %d", n, taps, seed, len(got))
			}
		}
	})
}

// Promise 37.
func TestPeriodsAreBounded(t *testing.T) {
	shortRegisters(8, func(taps int, seed int) {
		wantPeriod(t, taps, seed, steppedPeriod(taps, seed))
	})
	someRegisters(func(taps int, seed int) {
		wantPeriod(t, taps, seed, steppedPeriod(taps, seed))
	})
	for seed := 1; seed < 16; seed++ {
		wantPeriod(t, 19, seed, 15)
	}
}

func wantPeriod(t *testing.T, taps int, seed int, want int) {
	t.Helper()
	period := impl.ShiftPeriod(taps, seed)
	if period != want || period < 1 || period >= 1<<degree(taps) {
		t.Fatalf("%d from %d has the period %d, want %d", taps, seed, period, want)
	}
}

// The periods are the orders of x modulo these generator polynomials, which are known.
func TestLongPeriods(t *testing.T) {
	for taps, want := range map[int]int{3: 1, 7: 3, 11: 7, 13: 7, 25: 15, 37: 31, 0x11D: 255, 0x211: 511, 0x409: 1023, 0x8003: 32767, 0x1100B: 65535} {
		for _, seed := range seedsOf(taps) {
			wantPeriod(t, taps, seed, want)
		}
	}
	wantPeriod(t, 69665, 1, 32767)
}

// Registers whose period is shorter than 2^d-1, some of them with periods that depend on the seed.
func TestShortPeriods(t *testing.T) {
	for seed := 1; seed < 16; seed++ {
		wantPeriod(t, 31, seed, 5)
	}
	for seed := 1; seed < 1<<16; seed += 77 {
		wantPeriod(t, 1<<17-1, seed, 17)
	}
	for seed, want := range map[int]int{1: 2, 2: 2, 3: 1} {
		wantPeriod(t, 5, seed, want)
	}
	for seed, want := range map[int]int{1: 6, 2: 6, 7: 3, 9: 3, 14: 3, 15: 6} {
		wantPeriod(t, 21, seed, want)
	}
	for seed, want := range map[int]int{1: 16, 1 << 15: 16, 0xFF: 16, 0x0101: 8, 0x1111: 4, 0x5555: 2, 0xAAAA: 2, 0xFFFF: 1} {
		wantPeriod(t, 1<<16+1, seed, want)
	}
	for d := 1; d <= impl.MaxDegree; d++ {
		wantPeriod(t, 1<<d+1, 1, d)
		wantPeriod(t, 1<<d+1, 1<<d-1, 1)
	}
}

// Promise 38.
func TestScramblingTwiceUndoes(t *testing.T) {
	someRegisters(func(taps int, seed int) {
		for _, length := range []int{0, 1, 2, 7, 64, 65, 333, impl.MaxBits} {
			list := mixedBits(seed, length)
			scrambled := impl.ScrambleBits(list, taps, seed)
			want, _ := steppedOutputs(taps, seed, length)
			for k := range want {
				want[k] = (want[k] + list[k]) % 2
			}
			wantInts(t, "scrambled bits", scrambled, want)
			wantInts(t, "bits scrambled twice", impl.ScrambleBits(scrambled, taps, seed), list)
			wantInts(t, "scrambled zeros", impl.ScrambleBits(repeated(0, length), taps, seed), impl.ShiftBits(taps, seed, length))
		}
	})
	wantInts(t, "010 with 19 from 1", impl.ScrambleBits([]int{0, 1, 0}, 19, 1), []int{1, 0, 1})
}

func TestScrambleBitsBoundsLength(t *testing.T) {
	someRegisters(func(taps int, seed int) {
		for _, empty := range [][]int{nil, {}} {
			if got := impl.ScrambleBits(empty, taps, seed); len(got) != 0 {
				t.Fatalf("no bits scrambled with %d from %d are %v", taps, seed, got)
			}
		}
		for _, bit := range []int{0, 1} {
			if got := impl.ScrambleBits(repeated(bit, impl.MaxBits), taps, seed); len(got) != impl.MaxBits {
				t.Fatalf("MaxBits bits scrambled with %d from %d are %d", taps, seed, len(got))
			}
			for _, more := range []int{1, 2, 64, 1024} {
				wantRefusedScramble(t, repeated(bit, impl.MaxBits+more), taps, seed)
			}
		}
	})
}

func wantRefusedScramble(t *testing.T, list []int, taps int, seed int) {
	t.Helper()
	if got := impl.ScrambleBits(list, taps, seed); len(got) != 0 {
		t.Fatalf("%v scrambled with %d from %d are %v", list, taps, seed, got)
	}
}

// Promise 110.
func TestScramblingCommutesWithAdding(t *testing.T) {
	someRegisters(func(taps int, seed int) {
		for _, length := range []int{0, 1, 8, 65, impl.MaxBits} {
			a := mixedBits(2*seed, length)
			b := mixedBits(2*seed+1, length)
			want := impl.AddBits(a, impl.ScrambleBits(b, taps, seed))
			if len(want) != length {
				t.Fatalf("%d bits scrambled with %d from %d are %d", length, taps, seed, len(want))
			}
			wantInts(t, "scrambled sum", impl.ScrambleBits(impl.AddBits(a, b), taps, seed), want)
			wantInts(t, "scrambled sum", impl.AddBits(impl.ScrambleBits(a, taps, seed), b), want)
		}
	})
}

// Promise 111.
func TestLongPeriodsAreBalanced(t *testing.T) {
	for seed := 1; seed < 16; seed++ {
		outputs := impl.ShiftBits(19, seed, impl.MaxBits)
		for at := 0; at+15 <= len(outputs); at++ {
			ones := 0
			for _, bit := range outputs[at : at+15] {
				ones += bit
			}
			if ones != 8 {
				t.Fatalf("the period from %d, beginning with output %d, has %d ones", seed, at, ones)
			}
		}
	}
}

// Promise 112.
func TestShiftedRegistersAreDifferent(t *testing.T) {
	for seed := 1; seed < 16; seed++ {
		period := impl.ShiftBits(19, seed, 15)
		for shift := 1; shift < 15; shift++ {
			shifted := slices.Concat(period[shift:], period[:shift])
			if count := differences(period, shifted); count != 8 {
				t.Fatalf("from %d, shifted by %d, %d places differ", seed, shift, count)
			}
		}
		for other := 1; other < 16; other++ {
			if count := differences(period, impl.ShiftBits(19, other, 15)); other != seed && count != 8 {
				t.Fatalf("from %d and from %d, %d places differ", seed, other, count)
			}
		}
	}
}

// Promise 125.
func TestRegistersObeyRecurrence(t *testing.T) {
	for seed := 1; seed < 16; seed++ {
		outputs := impl.ShiftBits(19, seed, impl.MaxBits)
		if len(outputs) != impl.MaxBits {
			t.Fatalf("%d outputs from %d", len(outputs), seed)
		}
		for k := 4; k < len(outputs); k++ {
			if outputs[k] != (outputs[k-1]+outputs[k-4])%2 {
				t.Fatalf("output %d from %d is %d", k, seed, outputs[k])
			}
		}
	}
}

func TestRegistersWithInvalidTaps(t *testing.T) {
	for _, taps := range notGenerators() {
		for _, seed := range []int{1, 2, 3, 7, 15, 16, 255, 65535, 0, -1, math.MaxInt, math.MinInt} {
			wantRefusedRegister(t, taps, seed)
		}
	}
}

func TestRegistersWithInvalidSeeds(t *testing.T) {
	for _, taps := range generators() {
		for _, seed := range notSeedsOf(taps) {
			wantRefusedRegister(t, taps, seed)
		}
	}
}

func wantRefusedRegister(t *testing.T, taps int, seed int) {
	t.Helper()
	for _, n := range []int{0, 1, 5, impl.MaxBits, impl.MaxBits + 1, -1} {
		if got := impl.ShiftBits(taps, seed, n); len(got) != 0 {
			t.Fatalf("%d outputs of %d from %d are %v", n, taps, seed, got)
		}
	}
	if period := impl.ShiftPeriod(taps, seed); period != 0 {
		t.Fatalf("%d from %d has the period %d", taps, seed, period)
	}
	for _, length := range []int{0, 1, 5, impl.MaxBits, impl.MaxBits + 1} {
		wantRefusedScramble(t, mixedBits(1, length), taps, seed)
	}
	wantRefusedScramble(t, []int{2}, taps, seed)
}

func TestScramblingInvalidLists(t *testing.T) {
	someRegisters(func(taps int, seed int) {
		for _, number := range notBits() {
			for _, length := range []int{1, 5, 64, impl.MaxBits} {
				list := mixedBits(length, length)
				for _, place := range []int{0, length / 2, length - 1} {
					wantRefusedScramble(t, changed(list, place, number), taps, seed)
				}
			}
		}
	})
}

func TestScrambleArgumentIsNotWritten(t *testing.T) {
	for _, taps := range []int{3, 19, 69665} {
		for _, length := range bitLengths() {
			list, whole := guarded(mixedBits(1, length), 7)
			before := slices.Clone(whole)
			overwrite(impl.ScrambleBits(list, taps, 1), 9)
			wantInts(t, "list", whole, before)
			wrong, wholeWrong := guarded(append(mixedBits(1, length), 2), 7)
			beforeWrong := slices.Clone(wholeWrong)
			overwrite(impl.ScrambleBits(wrong, taps, 1), 9)
			overwrite(impl.ScrambleBits(wrong[:length], taps, 0), 9)
			wantInts(t, "invalid list", wholeWrong, beforeWrong)
		}
	}
}

func TestRegisterResultsAreNewMemory(t *testing.T) {
	for _, taps := range []int{3, 19, 69665} {
		for _, length := range bitLengths() {
			list := mixedBits(1, length)
			outputs, again := impl.ShiftBits(taps, 1, length), impl.ShiftBits(taps, 1, length)
			scrambled, scrambledAgain := impl.ScrambleBits(list, taps, 1), impl.ScrambleBits(list, taps, 1)
			wantOutputs, wantScrambled := slices.Clone(outputs), slices.Clone(scrambled)
			overwrite(list, 9)
			overwrite(again, 9)
			overwrite(scrambledAgain, 9)
			wantInts(t, "ShiftBits", outputs, wantOutputs)
			wantInts(t, "ScrambleBits", scrambled, wantScrambled)
			wantInts(t, "ShiftBits after writing", impl.ShiftBits(taps, 1, length), wantOutputs)
		}
	}
}
