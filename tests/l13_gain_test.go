package tests

import (
	"math"
	"math/big"
	"slices"
	"testing"

	"loop.example/softwareradio/impl"
)

// notGains are numbers other than 1 to 4096; some of them look like a gain if only their last digits or their absolute values are kept.
func notGains() []int {
	return []int{
		0, -1, -2, -15, -16, -255, -256, -257, -4095, -4096, -4097, 4097, 4098, 4111, 4112, 4352, 5000, 8191, 8192, 10000, 65535, 65536, 65537, 65792, 69632, -65536, -65280,
		1 << 31, -1 << 31, 1<<31 + 256, 1 << 32, -1 << 32, 1<<32 + 1, 1<<32 + 256, 1<<32 + 4096, -1<<32 + 256, 1 << 54, 1 << 60, 1 << 62, -1 << 62, 1<<62 + 256,
		math.MaxInt, math.MaxInt - 1, math.MaxInt - 4095, math.MinInt, math.MinInt + 1, math.MinInt + 256, math.MinInt + 4096,
	}
}

// notWanted are numbers other than 1 to MaxValue; some of them look like a wanted peak if only their last digits or their absolute values are kept.
func notWanted() []int {
	return []int{
		0, -1, -2, -100, -999, -1000, -1001, 1001, 1002, 1023, 1024, 1100, 2000, 4096, 16000, 65535, 65536, 65537, 66036, 66536, -65536, -65036,
		1 << 31, -1 << 31, 1 << 32, -1 << 32, 1<<32 + 1, 1<<32 + 500, 1<<32 + 1000, -1<<32 + 500, 1 << 54, 1 << 62, -1 << 62, 1<<62 + 500,
		math.MaxInt, math.MaxInt - 1, math.MaxInt - 999, math.MinInt, math.MinInt + 1, math.MinInt + 500, math.MinInt + 1000,
	}
}

// longSequences are longer than a valid sequence; some of their lengths look valid if only their last digits are kept.
func longSequences() [][]int {
	var lists [][]int
	for _, length := range []int{65, 66, 67, 80, 100, 127, 128, 129, 192, 255, 256, 257, 320, 1000, 65536, 65537, 65600} {
		lists = append(lists, repeated(0, length), repeated(1, length), repeated(-1000, length), changed(repeated(0, length), length-1, 7), mixedNumbers(length, length, 1000))
	}
	return lists
}

// invalidSequences have one number past the range at the first, the last or a middle place, only such numbers, or one number too many.
func invalidSequences() [][]int {
	lists := longSequences()
	for _, number := range notValues() {
		for _, length := range []int{1, 2, 3, 8, 33, 63, 64} {
			for _, place := range []int{0, length / 2, length - 1} {
				lists = append(lists, changed(repeated(0, length), place, number), changed(repeated(1000, length), place, number), changed(mixedNumbers(length, length, 1000), place, number))
			}
			lists = append(lists, repeated(number, length))
		}
		lists = append(lists, []int{number, -number}, []int{-number, number, 0})
	}
	return lists
}

// fewGains are the least and the greatest gains, those whose sixteenth is 0 or changes, and those next to 256 and to its parts and multiples.
func fewGains() []int {
	return []int{1, 2, 3, 7, 8, 9, 14, 15, 16, 17, 31, 32, 33, 47, 48, 63, 64, 65, 100, 127, 128, 129, 240, 255, 256, 257, 271, 272, 273, 384, 511, 512, 513, 768, 1000, 1024, 2047, 2048, 2049, 3000, 3839, 3840, 3854, 3855, 3856, 3857, 4080, 4081, 4094, 4095, 4096}
}

// fewPeaks are peaks next to the ends of the range and next to powers of 2.
func fewPeaks() []int {
	return []int{1, 2, 3, 15, 16, 17, 50, 62, 63, 64, 100, 127, 128, 129, 200, 250, 255, 256, 257, 333, 500, 511, 512, 513, 997, 998, 999, 1000}
}

// withPeak is a sequence of three numbers; the one with the peak, of either sign, is in any place.
func withPeak(peak int, seed int) []int {
	list := mixedNumbers(seed, 3, peak-1)
	number := peak
	if seed&1 == 1 {
		number = -peak
	}
	return changed(list, seed/2%3, number)
}

// nearestInRange moves a number to a range.
func nearestInRange(number int, least int, most int) int {
	if number < least {
		return least
	}
	if number > most {
		return most
	}
	return number
}

// modelPeak counts down from the largest value to the first one that occurs.
func modelPeak(list []int) int {
	peak := 1000
	for peak > 0 && !slices.Contains(list, peak) && !slices.Contains(list, -peak) {
		peak--
	}
	return peak
}

// modelGain compares products instead of quotients: the reached peak is less than wanted exactly if the product is less than 256 times wanted, and greater exactly if the product is at least 256 times one more.
func modelGain(gain int, peak int, wanted int) int {
	step := 1
	for 16*(step+1) <= gain {
		step++
	}
	if peak != 0 && peak*gain < 256*wanted {
		gain += step
	} else if peak != 0 && peak*gain >= 256*(wanted+1) {
		gain -= step
	}
	return nearestInRange(gain, 1, 4096)
}

// modelApplied shifts absolute values, so that they are rounded towards 0.
func modelApplied(gain int, list []int) []int {
	var applied []int
	for _, number := range list {
		if number < 0 {
			applied = append(applied, -min(-number*gain>>8, 1000))
		} else {
			applied = append(applied, min(number*gain>>8, 1000))
		}
	}
	return applied
}

// modelMean is rounded towards 0, as Quo does.
func modelMean(list []int) int {
	sum := new(big.Int)
	for _, number := range list {
		sum.Add(sum, big.NewInt(int64(number)))
	}
	return int(sum.Quo(sum, big.NewInt(int64(len(list)))).Int64())
}

// modelCentred returns also whether a number had to be moved to the range.
func modelCentred(list []int) ([]int, bool) {
	moved := false
	var centred []int
	for _, number := range list {
		difference := number - modelMean(list)
		centred = append(centred, nearestInRange(difference, -1000, 1000))
		moved = moved || difference != centred[len(centred)-1]
	}
	return centred, moved
}

func wantPeak(t *testing.T, list []int, want int) {
	t.Helper()
	if peak := impl.PeakOf(list); peak != want {
		t.Fatalf("%v has the peak %d, want %d", list, peak, want)
	}
}

func wantGain(t *testing.T, gain int, list []int, wanted int, want int) {
	t.Helper()
	if got := impl.GainStep(gain, list, wanted); got != want {
		t.Fatalf("the gain %d becomes %d with %v and the wanted peak %d, want %d", gain, got, list, wanted, want)
	}
}

func wantNotApplied(t *testing.T, gain int, list []int) {
	t.Helper()
	if applied := impl.ApplyGain(gain, list); len(applied) != 0 {
		t.Fatalf("the gain %d is applied to %v: %v", gain, list, applied)
	}
}

func wantNoMean(t *testing.T, list []int) {
	t.Helper()
	if centred := impl.RemoveMean(list); len(centred) != 0 {
		t.Fatalf("the mean of %v is removed: %v", list, centred)
	}
}

// wantRemoved checks the promises 77 and 140 for one sequence that is not empty.
func wantRemoved(t *testing.T, list []int) {
	t.Helper()
	want, moved := modelCentred(list)
	centred := impl.RemoveMean(list)
	wantInts(t, "RemoveMean", centred, want)
	if sum := numberSum(centred); !moved && (sum >= len(list) || sum <= -len(list)) {
		t.Fatalf("%v without its mean is %v with the sum %d", list, centred, sum)
	}
	again := impl.RemoveMean(centred)
	if !slices.Contains(centred, 1000) && !slices.Contains(centred, -1000) {
		wantInts(t, "RemoveMean again", again, centred)
	}
}

// eachShortSequence calls a test with all sequences of up to five small numbers, and of up to four numbers at or next to the bounds and to 0.
func eachShortSequence(test func(list []int)) {
	for _, list := range listsOf([]int{-3, -2, -1, 0, 1, 2, 3}, 5) {
		test(list)
	}
	for _, list := range listsOf([]int{-1000, -999, -1, 0, 1, 999, 1000}, 4) {
		test(list)
	}
}

func TestPeakExamples(t *testing.T) {
	wantPeak(t, []int{3, -7}, 7)
	wantPeak(t, []int{-7, 3}, 7)
	wantPeak(t, []int{7, -3}, 7)
	wantPeak(t, []int{7, -7}, 7)
	wantPeak(t, []int{-2, -5, -3}, 5)
	wantPeak(t, []int{0}, 0)
	wantPeak(t, []int{1000, -1000}, 1000)
	wantPeak(t, []int{-1000}, 1000)
	wantPeak(t, nil, 0)
	wantPeak(t, []int{}, 0)
}

// Promise 74: the peak is at least every absolute value, and that of one of the numbers.
func TestPeaksAreReached(t *testing.T) {
	check := func(list []int) {
		peak, reached := impl.PeakOf(list), len(list) == 0
		for _, number := range list {
			if number > peak || -number > peak {
				t.Fatalf("%v has the peak %d", list, peak)
			}
			reached = reached || number == peak || -number == peak
		}
		if !reached {
			t.Fatalf("no number of %v has the peak %d", list, peak)
		}
		wantPeak(t, list, modelPeak(list))
		wantPeak(t, negated(list), peak)
	}
	eachShortSequence(check)
	eachSequence(check)
	for number := -1000; number <= 1000; number++ {
		check([]int{number})
		check([]int{number, 500, -500})
		check([]int{1, -1, number})
	}
}

// Promise 74, with the peak at each place of sequences of every length.
func TestPeaksAtEveryPlace(t *testing.T) {
	for length := 1; length <= 64; length++ {
		wantPeak(t, repeated(0, length), 0)
		for place := range length {
			for _, peak := range []int{1, 2, 500, 999, 1000} {
				for _, number := range []int{peak, -peak} {
					wantPeak(t, changed(repeated(0, length), place, number), peak)
					wantPeak(t, changed(repeated(peak-1, length), place, number), peak)
					wantPeak(t, changed(repeated(1-peak, length), place, number), peak)
					wantPeak(t, changed(mixedNumbers(length+place, length, peak-1), place, number), peak)
				}
			}
		}
	}
}

func TestGainStepExamples(t *testing.T) {
	wantGain(t, 256, []int{100}, 200, 272)
	wantGain(t, 256, []int{100}, 50, 240)
	wantGain(t, 256, []int{100}, 100, 256)
	wantGain(t, 256, []int{3, -100, 99}, 100, 256)
	wantGain(t, 256, []int{100}, 101, 272)
	wantGain(t, 256, []int{100}, 99, 240)
	wantGain(t, 5, []int{1}, 50, 6)
	wantGain(t, 5, []int{1000}, 1, 4)
	wantGain(t, 4000, []int{1}, 1000, 4096)
	wantGain(t, 4096, []int{1}, 1000, 4096)
	wantGain(t, 4096, []int{1000}, 1000, 3840)
	wantGain(t, 1, []int{1000}, 1, 1)
	wantGain(t, 1, []int{1000}, 3, 1)
	wantGain(t, 1, []int{1000}, 4, 2)
	wantGain(t, 256, []int{0}, 50, 256)
	wantGain(t, 256, nil, 50, 256)
}

// A gain of 129 makes 50.39 of the peak 100, and a gain of 130 makes 50.78: both reach 50, because quotients are rounded down.
func TestReachedPeaksAreRoundedDown(t *testing.T) {
	wantGain(t, 127, []int{100}, 50, 134)
	wantGain(t, 128, []int{100}, 50, 128)
	wantGain(t, 129, []int{-100}, 50, 129)
	wantGain(t, 130, []int{100}, 50, 130)
	wantGain(t, 131, []int{100}, 50, 123)
	wantGain(t, 255, []int{1}, 1, 270)
	wantGain(t, 511, []int{1}, 1, 511)
	wantGain(t, 512, []int{1}, 1, 480)
	wantGain(t, 256, []int{1000}, 1000, 256)
	wantGain(t, 257, []int{996}, 1000, 273)
	wantGain(t, 257, []int{997}, 1000, 257)
}

// A peak that would be past the range is not moved to it before it is compared.
func TestPeaksPassedByFar(t *testing.T) {
	wantGain(t, 4096, []int{63}, 1000, 3840)
	wantGain(t, 4096, []int{62}, 1000, 4096)
	wantGain(t, 512, []int{500}, 1000, 512)
	wantGain(t, 512, []int{501}, 1000, 480)
	wantGain(t, 256, []int{-1000}, 1000, 256)
	wantGain(t, 257, []int{-1000}, 1000, 241)
	for gain := 257; gain <= 4096; gain++ {
		for peak := 256 * 1001 / gain; peak <= 1000; peak++ {
			if peak*gain >= 256*1001 {
				wantGain(t, gain, []int{peak}, 1000, gain-max(1, gain/16))
			}
		}
	}
}

// wantStep checks promise 75 for one gain, sequence and wanted peak.
func wantStep(t *testing.T, gain int, list []int, peak int, wanted int) {
	t.Helper()
	next := impl.GainStep(gain, list, wanted)
	reached := peak * gain / 256
	if next > gain && reached >= wanted || next < gain && reached <= wanted {
		t.Fatalf("the gain %d, that reaches %d, becomes %d for %d", gain, reached, next, wanted)
	}
	most := max(1, gain/16)
	if next < 1 || next > 4096 || next-gain > most || gain-next > most {
		t.Fatalf("the gain %d becomes %d", gain, next)
	}
	if want := modelGain(gain, peak, wanted); next != want {
		t.Fatalf("the gain %d becomes %d with the peak %d and the wanted peak %d, want %d", gain, next, peak, wanted, want)
	}
}

// wantSteps checks promise 75 for wanted peaks that are far from what a gain reaches, and for those that it reaches exactly, misses by one, and passes by one.
func wantSteps(t *testing.T, gain int, list []int, peak int) {
	t.Helper()
	reached := peak * gain / 256
	for _, wanted := range []int{1, 2, reached - 2, reached - 1, reached, reached + 1, reached + 2, 500, 999, 1000} {
		if wanted >= 1 && wanted <= 1000 {
			wantStep(t, gain, list, peak, wanted)
		}
	}
}

// Promise 75, with every gain.
func TestGainsMoveTowardsTheWantedPeak(t *testing.T) {
	for gain := 1; gain <= 4096; gain++ {
		for place, peak := range fewPeaks() {
			wantSteps(t, gain, withPeak(peak, gain+place), peak)
		}
	}
}

// Promise 75, with every peak.
func TestGainsForEveryPeak(t *testing.T) {
	for peak := 1; peak <= 1000; peak++ {
		for place, gain := range fewGains() {
			wantSteps(t, gain, withPeak(peak, peak+place), peak)
		}
	}
}

// Promise 75, with every wanted peak.
func TestGainsForEveryWantedPeak(t *testing.T) {
	for wanted := 1; wanted <= 1000; wanted++ {
		for _, gain := range fewGains() {
			for place, peak := range fewPeaks() {
				wantStep(t, gain, withPeak(peak, wanted+place), peak, wanted)
			}
		}
	}
}

// Promise 75, with sequences of many lengths.
func TestGainsForSequences(t *testing.T) {
	check := func(list []int) {
		for _, gain := range []int{1, 15, 16, 17, 128, 256, 257, 4095, 4096} {
			wantSteps(t, gain, list, modelPeak(list))
		}
	}
	eachSequence(check)
	for _, list := range listsOf([]int{-1000, -999, -1, 0, 1, 999, 1000}, 3) {
		check(list)
	}
}

// A gain whose sixteenth is 0 is changed by 1; the next ones by whole sixteenths, and none leaves the range.
func TestSizesOfSteps(t *testing.T) {
	for gain := 1; gain <= 4096; gain++ {
		step := 1
		if gain >= 16 {
			step = (gain - gain%16) / 16
		}
		wantGain(t, gain, []int{1}, 1000, min(gain+step, 4096))
		// The gain 1 makes 3 of the peak 1000 already, so every gain is too large.
		wantGain(t, gain, []int{-1000}, 1, max(gain-step, 1))
	}
	for _, pair := range [][2]int{{3840, 4080}, {3855, 4095}, {3856, 4096}, {3857, 4096}, {4095, 4096}, {4096, 4096}, {15, 16}, {16, 17}, {31, 32}, {32, 34}} {
		wantGain(t, pair[0], []int{1}, 1000, pair[1])
	}
	for _, pair := range [][2]int{{4096, 3840}, {4095, 3840}, {33, 31}, {32, 30}, {31, 30}, {17, 16}, {16, 15}, {15, 14}, {3, 2}, {2, 1}} {
		wantGain(t, pair[0], []int{1000}, 1, pair[1])
	}
}

// Steps lead from 1 to 4096 and back, and stay there.
func TestRepeatedSteps(t *testing.T) {
	gain := 256
	for _, want := range []int{272, 289, 307, 326, 346, 367, 389, 413, 438, 465, 494, 524} {
		wantGain(t, gain, []int{100}, 200, want)
		gain = want
	}
	wantGain(t, 524, []int{100}, 204, 524)
	wantGain(t, 524, []int{100}, 203, 492)
	quiet, loud := 1, 4096
	for range 300 {
		quiet, loud = impl.GainStep(quiet, []int{1}, 1000), impl.GainStep(loud, []int{1000}, 1)
	}
	if quiet != 4096 || loud != 1 {
		t.Fatalf("the gains are %d and %d in the end", quiet, loud)
	}
}

// Silence leaves every gain as it is, however long it is.
func TestGainsAreUnchangedBySilence(t *testing.T) {
	for gain := 1; gain <= 4096; gain++ {
		for length := range 65 {
			wantGain(t, gain, repeated(0, length), 1+gain%1000, gain)
		}
		for _, wanted := range []int{1, 2, 256, 999, 1000} {
			wantGain(t, gain, nil, wanted, gain)
			wantGain(t, gain, []int{}, wanted, gain)
			wantGain(t, gain, []int{0}, wanted, gain)
			wantGain(t, gain, repeated(0, 64), wanted, gain)
		}
	}
	for wanted := 1; wanted <= 1000; wanted++ {
		for _, gain := range fewGains() {
			wantGain(t, gain, nil, wanted, gain)
			wantGain(t, gain, []int{0, 0, 0}, wanted, gain)
		}
	}
}

func TestApplyGainExamples(t *testing.T) {
	wantInts(t, "512", impl.ApplyGain(512, []int{3, -3, 900}), []int{6, -6, 1000})
	wantInts(t, "128", impl.ApplyGain(128, []int{3, -3}), []int{1, -1})
	wantInts(t, "256", impl.ApplyGain(256, []int{1000, -1000, 0, 1, -1}), []int{1000, -1000, 0, 1, -1})
	wantInts(t, "1", impl.ApplyGain(1, []int{255, -255, 256, -256, 511, -511, 512, -512, 1000, -1000}), []int{0, 0, 1, -1, 1, -1, 2, -2, 3, -3})
	wantInts(t, "4096", impl.ApplyGain(4096, []int{1, -1, 62, -62, 63, -63, 1000, -1000}), []int{16, -16, 992, -992, 1000, -1000, 1000, -1000})
	wantInts(t, "257", impl.ApplyGain(257, []int{255, 256, -255, -256, 996, 997, 998, -996, -997, -998}), []int{255, 257, -255, -257, 999, 1000, 1000, -999, -1000, -1000})
	wantInts(t, "255", impl.ApplyGain(255, []int{1, -1, 256, -256, 1000, -1000}), []int{0, 0, 255, -255, 996, -996})
	wantInts(t, "512", impl.ApplyGain(512, []int{499, 500, 501, -499, -500, -501}), []int{998, 1000, 1000, -998, -1000, -1000})
	wantInts(t, "nothing", impl.ApplyGain(256, nil), nil)
	wantInts(t, "nothing", impl.ApplyGain(1, []int{}), nil)
}

// wantApplied checks promise 76 for one gain and sequence.
func wantApplied(t *testing.T, gain int, list []int) {
	t.Helper()
	applied := impl.ApplyGain(gain, list)
	wantInts(t, "ApplyGain", applied, modelApplied(gain, list))
	if !impl.SequenceValid(applied) {
		t.Fatalf("the gain %d applied to %v: %v is not valid", gain, list, applied)
	}
	wantInts(t, "the negated sequence", impl.ApplyGain(gain, negated(list)), negated(applied))
}

// Promise 76, with every number and every gain.
func TestGainsPreserveSigns(t *testing.T) {
	var numbers [][]int
	for first := -1000; first <= 1000; first += 64 {
		var list []int
		for number := first; number < first+64 && number <= 1000; number++ {
			list = append(list, number)
		}
		numbers = append(numbers, list)
	}
	for gain := 1; gain <= 4096; gain++ {
		for _, list := range numbers {
			wantApplied(t, gain, list)
		}
	}
}

// Promise 76, with sequences of many lengths.
func TestGainsAreApplied(t *testing.T) {
	check := func(list []int) {
		wantInts(t, "the gain 256", impl.ApplyGain(256, list), list)
		for _, gain := range fewGains() {
			wantApplied(t, gain, list)
		}
	}
	eachSequence(check)
	for _, list := range listsOf([]int{-1000, -999, -1, 0, 1, 999, 1000}, 3) {
		check(list)
	}
	for length := range 65 {
		check(repeated(0, length))
		check(repeated(1000, length))
		check(repeated(-1000, length))
		check(mixedNumbers(length, length, 1000))
	}
}

// The peak that a step compares is the peak that the gain makes, as long as it is in the range.
func TestAppliedPeaks(t *testing.T) {
	eachSequence(func(list []int) {
		for _, gain := range fewGains() {
			wantPeak(t, impl.ApplyGain(gain, list), min(1000, modelPeak(list)*gain/256))
		}
	})
}

func TestRemoveMeanExamples(t *testing.T) {
	wantInts(t, "3", impl.RemoveMean([]int{1, 2, 6}), []int{-2, -1, 3})
	wantInts(t, "-3", impl.RemoveMean([]int{-1, -2, -6}), []int{2, 1, -3})
	wantInts(t, "1/2", impl.RemoveMean([]int{0, 1}), []int{0, 1})
	wantInts(t, "-1/2", impl.RemoveMean([]int{0, -1}), []int{0, -1})
	wantInts(t, "5/3", impl.RemoveMean([]int{1, 2, 2}), []int{0, 1, 1})
	wantInts(t, "-5/3", impl.RemoveMean([]int{-1, -2, -2}), []int{0, -1, -1})
	wantInts(t, "-7/2", impl.RemoveMean([]int{-3, -4}), []int{0, -1})
	wantInts(t, "one number", impl.RemoveMean([]int{-7}), []int{0})
	wantInts(t, "0", impl.RemoveMean([]int{1000, -1000}), []int{1000, -1000})
	wantInts(t, "1999/2", impl.RemoveMean([]int{1000, 999}), []int{1, 0})
	wantInts(t, "-1999/2", impl.RemoveMean([]int{-1000, -999}), []int{-1, 0})
	wantInts(t, "moved to 1000", impl.RemoveMean([]int{1000, -1000, -1000, -1000}), []int{1000, -500, -500, -500})
	wantInts(t, "moved to -1000", impl.RemoveMean([]int{-1000, 1000, 1000, 1000}), []int{-1000, 500, 500, 500})
	wantInts(t, "just in the range", impl.RemoveMean([]int{999, -1000, -1, -2}), []int{1000, -999, 0, -1})
	wantInts(t, "just past the range", impl.RemoveMean([]int{1000, -1000, -2, -2}), []int{1000, -999, -1, -1})
}

// Promises 77 and 140.
func TestMeansAreRemoved(t *testing.T) {
	check := func(list []int) {
		if len(list) == 0 {
			wantNoMean(t, list)
			return
		}
		wantRemoved(t, list)
		wantInts(t, "the negated sequence", impl.RemoveMean(negated(list)), negated(impl.RemoveMean(list)))
	}
	eachShortSequence(check)
	eachSequence(check)
	for length := range 65 {
		for seed, level := range []int{1, 2, 5, 100, 499, 500, 501, 999, 1000} {
			list := mixedNumbers(seed+100*length, length, level)
			check(list)
			for place, number := range list {
				list[place] = max(number, -number)
			}
			check(list)
		}
	}
}

// Promise 77: equal numbers become 0.
func TestEqualNumbersBecomeZero(t *testing.T) {
	for length := 1; length <= 64; length++ {
		for number := -1000; number <= 1000; number++ {
			wantInts(t, "equal numbers", impl.RemoveMean(repeated(number, length)), repeated(0, length))
		}
	}
}

// Means next to a whole number: the sum of the numbers is a multiple of their number, or differs from one by less than it.
func TestMeansThatAreNotWhole(t *testing.T) {
	for length := 1; length <= 64; length++ {
		for _, mean := range []int{0, 1, 2, 17, 500, 998, 999} {
			for rest := range length {
				list := repeated(mean, length)
				for place := range rest {
					list[(place+mean)%length]++
				}
				sum := numberSum(list)
				want := slices.Clone(list)
				for place := range want {
					want[place] -= (sum - sum%length) / length
				}
				wantInts(t, "a mean that is not negative", impl.RemoveMean(list), want)
				wantInts(t, "a mean that is not positive", impl.RemoveMean(negated(list)), negated(want))
			}
		}
	}
}

// One number far from all others is moved to the end of the range; it is at each place.
func TestNumbersMovedToTheRange(t *testing.T) {
	for length := 2; length <= 64; length++ {
		for place := range length {
			for _, level := range []int{0, 1, 500, 999, 1000} {
				list := changed(repeated(-level, length), place, 1000)
				mean := (1000 - level*(length-1)) / length
				want := changed(repeated(nearestInRange(-level-mean, -1000, 1000), length), place, nearestInRange(1000-mean, -1000, 1000))
				wantInts(t, "one high number", impl.RemoveMean(list), want)
				wantInts(t, "one low number", impl.RemoveMean(negated(list)), negated(want))
			}
		}
	}
}

func TestGainsOfOtherNumbers(t *testing.T) {
	for _, gain := range notGains() {
		for _, list := range [][]int{nil, {}, {0}, {1}, {-1}, {100}, {1000, -1000}, repeated(0, 64), repeated(1000, 64), mixedNumbers(gain, 20, 1000), {1001}, repeated(0, 65)} {
			wantNotApplied(t, gain, list)
			for _, wanted := range []int{1, 2, 100, 256, 999, 1000, 0, 1001} {
				wantGain(t, gain, list, wanted, 0)
			}
		}
	}
	for gain := 4097; gain < 20000; gain++ {
		wantNotApplied(t, gain, []int{1, 2})
		wantNotApplied(t, -gain, []int{1, 2})
		wantGain(t, gain, []int{1}, 1000, 0)
		wantGain(t, gain, []int{1000}, 1, 0)
		wantGain(t, -gain, []int{1}, 1000, 0)
		wantGain(t, gain, nil, 1, 0)
	}
	for gain := -4096; gain <= 0; gain++ {
		wantNotApplied(t, gain, []int{-1, 1000})
		wantGain(t, gain, []int{1}, 1000, 0)
		wantGain(t, gain, []int{0}, 1, 0)
	}
}

func TestOtherWantedPeaks(t *testing.T) {
	for _, wanted := range notWanted() {
		for _, list := range [][]int{nil, {}, {0}, {1}, {-1}, {100}, {1000, -1000}, repeated(0, 64), repeated(1000, 64), mixedNumbers(wanted, 20, 1000), {1001}, repeated(0, 65)} {
			for _, gain := range append(fewGains(), 0, 4097) {
				wantGain(t, gain, list, wanted, 0)
			}
		}
	}
	for wanted := 1001; wanted < 20000; wanted++ {
		wantGain(t, 256, []int{1000}, wanted, 0)
		wantGain(t, 4096, []int{1000}, wanted, 0)
		wantGain(t, 256, nil, wanted, 0)
		wantGain(t, 256, []int{1}, 1000-wanted, 0)
		wantGain(t, 256, []int{0}, 1000-wanted, 0)
	}
}

func TestGainsOfInvalidSequences(t *testing.T) {
	for _, list := range invalidSequences() {
		wantPeak(t, list, -1)
		wantNoMean(t, list)
		for _, gain := range []int{1, 2, 16, 255, 256, 257, 4095, 4096, 0, 4097} {
			wantNotApplied(t, gain, list)
			for _, wanted := range []int{1, 100, 1000, 0, 1001} {
				wantGain(t, gain, list, wanted, 0)
			}
		}
	}
}

// A number one past the range is refused at every place of sequences of every length, and one number too many behind every valid sequence of the greatest length.
func TestGainsNextToTheBounds(t *testing.T) {
	wantInvalid := func(list []int) {
		t.Helper()
		wantPeak(t, list, -1)
		wantNotApplied(t, 256, list)
		wantNotApplied(t, 1, list)
		wantGain(t, 256, list, 1000, 0)
		wantGain(t, 1, list, 1, 0)
		wantNoMean(t, list)
	}
	for length := 1; length <= 64; length++ {
		for place := range length {
			for _, number := range []int{1001, -1001} {
				wantInvalid(changed(repeated(0, length), place, number))
				wantInvalid(changed(mixedNumbers(length, length, 1000), place, number))
			}
		}
	}
	for number := 1001; number < 5000; number++ {
		wantInvalid([]int{number})
		wantInvalid([]int{0, -number, 0})
	}
	for _, list := range sequencesOf(64) {
		wantPeak(t, list, modelPeak(list))
		wantRemoved(t, list)
		wantInvalid(append(slices.Clone(list), 0))
		wantInvalid(append(slices.Clone(list), list[0]))
	}
}

func TestMeansOfNothing(t *testing.T) {
	wantNoMean(t, nil)
	wantNoMean(t, []int{})
	wantNoMean(t, repeated(5, 5)[:0])
	wantInts(t, "one zero", impl.RemoveMean([]int{0}), []int{0})
}

// gainArguments are valid sequences and lists that are refused.
func gainArguments() [][]int {
	lists := [][]int{{1001}, {0, -1001}, repeated(3, 65), {math.MinInt, 1}}
	eachSequence(func(list []int) {
		lists = append(lists, list)
	})
	return lists
}

func TestGainArgumentsAreNotWritten(t *testing.T) {
	for _, list := range gainArguments() {
		argument, whole := guarded(list, 7)
		before := slices.Clone(whole)
		impl.PeakOf(argument)
		for _, gain := range append(fewGains(), 0, 4097) {
			impl.GainStep(gain, argument, 1)
			impl.GainStep(gain, argument, 1000)
			impl.GainStep(gain, argument, 1001)
			overwrite(impl.ApplyGain(gain, argument), 9)
		}
		overwrite(impl.RemoveMean(argument), 9)
		wantInts(t, "the argument", whole, before)
	}
}

// The gain 256 and the mean 0 leave a sequence as it is; the results are new memory nevertheless.
func TestGainResultsAreNewMemory(t *testing.T) {
	eachSequence(func(list []int) {
		balanced := append(slices.Clone(list[:len(list)/2]), negated(list[:len(list)/2])...)
		for _, numbers := range [][]int{list, balanced} {
			if len(numbers) == 0 {
				continue
			}
			argument := slices.Clone(numbers)
			centred, centredAgain := impl.RemoveMean(argument), impl.RemoveMean(argument)
			var applied, appliedAgain [][]int
			for _, gain := range fewGains() {
				applied = append(applied, impl.ApplyGain(gain, argument))
				appliedAgain = append(appliedAgain, impl.ApplyGain(gain, argument))
			}
			overwrite(argument, 9)
			overwrite(centredAgain, 9)
			want, _ := modelCentred(numbers)
			wantInts(t, "RemoveMean", centred, want)
			for k, gain := range fewGains() {
				overwrite(appliedAgain[k], 9)
				wantInts(t, "ApplyGain", applied[k], modelApplied(gain, numbers))
				overwrite(applied[k], 9)
			}
			wantInts(t, "RemoveMean", centred, want)
		}
	})
}

// The results are the same after every call, also if results are written to.
func TestGainKeepsNoState(t *testing.T) {
	eachSequence(func(list []int) {
		for _, other := range [][]int{repeated(1000, 64), {1001}, repeated(-1, 65), {1}, nil} {
			for _, gain := range []int{1, 256, 4096, 0} {
				impl.PeakOf(other)
				impl.GainStep(gain, other, 1000)
				overwrite(impl.ApplyGain(gain, other), 9)
				overwrite(impl.RemoveMean(other), 9)
			}
			wantPeak(t, list, modelPeak(list))
			wantGain(t, 300, list, 70, modelGain(300, modelPeak(list), 70))
			wantInts(t, "ApplyGain", impl.ApplyGain(300, list), modelApplied(300, list))
			if len(list) > 0 {
				wantRemoved(t, list)
			}
		}
	})
}
