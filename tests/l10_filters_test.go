package tests

import (
	"math"
	"math/big"
	"slices"
	"testing"

	"loop.example/softwareradio/impl"
)

// notValues are beyond MaxValue; some of them look valid if only their last digits or their absolute values are kept.
func notValues() []int {
	return []int{
		1001, -1001, 1002, -1002, 1023, 1024, -1024, 1025, 2000, -2000, 10000, -10000, 32768, -32768, 65535, 65536, -65536, 65537, 66536, -66536,
		1 << 31, -1 << 31, 1 << 32, -1 << 32, 1<<32 + 1, -1<<32 - 1, 1<<32 - 1, 1<<32 + 1000, -1<<32 - 1000, 1 << 62, -1 << 62,
		math.MaxInt, math.MaxInt - 1, math.MinInt, math.MinInt + 1, math.MinInt + 1000,
	}
}

// notFactors are numbers other than 1 to 8; some of them look like a factor if only their last digits or their absolute values are kept.
func notFactors() []int {
	return []int{
		0, 9, 10, 15, 16, 17, 32, 64, 65, 100, 255, 256, 257, 264, 1024, 65536, 65537, -1, -2, -3, -7, -8, -9, -16, -64, -256,
		1 << 31, 1 << 32, 1<<32 + 1, 1<<32 + 8, -1 << 32, -1<<32 + 1, 1 << 58, 1 << 61, 1 << 62, 1<<62 + 1, math.MaxInt, math.MaxInt - 1, math.MinInt, math.MinInt + 1, math.MinInt + 8,
	}
}

// farNumbers are invalid as indexes and as phases; some of them look valid if only their last digits are kept, or if a length is added to them.
func farNumbers() []int {
	return []int{
		-1, -2, -3, -4, -7, -8, -9, -63, -64, -65, -128, -256, -1024, 65, 66, 100, 127, 128, 256, 257, 1000, 65536, 65537,
		1 << 31, 1 << 32, 1<<32 + 1, 1<<32 + 7, -1 << 32, -1<<32 + 1, 1 << 62, -1 << 62,
		math.MaxInt, math.MaxInt - 1, math.MaxInt - 2, math.MaxInt - 7, math.MaxInt - 63, math.MinInt, math.MinInt + 1, math.MinInt + 7, math.MinInt + 64,
	}
}

// sequenceLengths are no numbers, few, some, and those next to MaxTaps.
func sequenceLengths() []int {
	return []int{0, 1, 2, 3, 4, 5, 7, 8, 9, 15, 16, 17, 21, 31, 32, 33, 48, 62, 63, 64}
}

// sequencesOf are sequences of one length: the same number everywhere, one number in silence, and mixed ones with few and with many levels.
func sequencesOf(length int) [][]int {
	var sequences [][]int
	for _, number := range []int{0, 1, -1, 1000, -1000} {
		sequences = append(sequences, repeated(number, length))
		if length > 0 {
			sequences = append(sequences, changed(repeated(0, length), int(mixed(number, length)%uint64(length)), number))
		}
	}
	for seed, level := range []int{1, 2, 10, 999, 1000} {
		sequences = append(sequences, mixedNumbers(seed+length, length, level))
	}
	return sequences
}

func eachSequence(test func(list []int)) {
	for _, length := range sequenceLengths() {
		for _, list := range sequencesOf(length) {
			test(list)
		}
	}
}

// listsOf are all lists of up to most of the numbers.
func listsOf(numbers []int, most int) [][]int {
	lists := [][]int{nil}
	for first := 0; most > 0; most-- {
		longest := lists[first:]
		first = len(lists)
		for _, list := range longest {
			for _, number := range numbers {
				lists = append(lists, append(slices.Clone(list), number))
			}
		}
	}
	return lists
}

// eachPairOfSequences calls a test with all pairs of sequences of up to three small numbers, of up to three of the bounds and 0, and with pairs of longer ones.
func eachPairOfSequences(test func(a []int, b []int)) {
	for _, numbers := range [][]int{{-2, -1, 0, 1, 2}, {-1000, 0, 1000}} {
		for _, a := range listsOf(numbers, 3) {
			for _, b := range listsOf(numbers, 3) {
				test(a, b)
			}
		}
	}
	for _, first := range sequenceLengths() {
		for _, second := range sequenceLengths() {
			for seed, level := range []int{1, 3, 1000} {
				test(mixedNumbers(seed+first, first, level), mixedNumbers(seed-second, second, level))
			}
			test(repeated(1000, first), repeated(-1000, second))
			test(repeated(-1000, first), repeated(-1000, second))
			test(repeated(1, first), mixedNumbers(second, second, 1000))
		}
	}
}

// modelFiltered is the convolution, number by number as the chapter defines it.
func modelFiltered(a []int, b []int) []int {
	if len(a) == 0 || len(b) == 0 {
		return nil
	}
	var list []int
	for k := 0; k <= len(a)+len(b)-2; k++ {
		sum := 0
		for i := range a {
			if k-i >= 0 && k-i < len(b) {
				sum += a[i] * b[k-i]
			}
		}
		list = append(list, sum)
	}
	return list
}

// modelCorrelation goes through the whole list, and takes the numbers that are in the pattern's place.
func modelCorrelation(list []int, pattern []int, at int) int {
	sum, met := 0, 0
	for k, number := range list {
		for place, other := range pattern {
			if at >= 0 && k >= at && k-at == place {
				sum += number * other
				met++
			}
		}
	}
	if met < len(pattern) {
		return 0
	}
	return sum
}

// modelPlace finds a pattern among all correlations.
func modelPlace(list []int, pattern []int) int {
	if len(pattern) == 0 || len(pattern) > len(list) {
		return -1
	}
	var sums []int
	for at := 0; at+len(pattern) <= len(list); at++ {
		sums = append(sums, modelCorrelation(list, pattern, at))
	}
	return slices.Index(sums, slices.Max(sums))
}

func modelRaised(list []int, n int) []int {
	var raised []int
	for _, number := range list {
		raised = append(raised, number)
		raised = append(raised, repeated(0, n-1)...)
	}
	return raised
}

func modelLowered(list []int, n int, phase int) []int {
	var lowered []int
	for k, number := range list {
		if k%n == phase {
			lowered = append(lowered, number)
		}
	}
	return lowered
}

// inverseSeries returns the first numbers of the filter that undoes a filter whose first number is 1.
func inverseSeries(filter []int, count int) []*big.Int {
	var series []*big.Int
	for k := range count {
		number := new(big.Int)
		if k == 0 {
			number.SetInt64(1)
		}
		for i := 1; i < len(filter) && i <= k; i++ {
			number.Sub(number, new(big.Int).Mul(big.NewInt(int64(filter[i])), series[k-i]))
		}
		series = append(series, number)
	}
	return series
}

// modelUndone filters with the inverse of a filter, with numbers of any size.
func modelUndone(list []int, filter []int) ([]int, bool) {
	series := inverseSeries(filter, len(list))
	var undone []int
	for k := range list {
		sum := new(big.Int)
		for i := 0; i <= k; i++ {
			sum.Add(sum, new(big.Int).Mul(big.NewInt(int64(list[i])), series[k-i]))
		}
		if sum.CmpAbs(big.NewInt(1000)) > 0 {
			return nil, false
		}
		undone = append(undone, int(sum.Int64()))
	}
	return undone, true
}

func wantCorrelation(t *testing.T, list []int, pattern []int, at int, want int) {
	t.Helper()
	if got := impl.CorrelateAt(list, pattern, at); got != want {
		t.Fatalf("%v at %d of %v has the correlation %d, want %d", pattern, at, list, got, want)
	}
}

func wantPlace(t *testing.T, list []int, pattern []int, want int) {
	t.Helper()
	if got := impl.FindPattern(list, pattern); got != want {
		t.Fatalf("%v in %v is found at %d, want %d", pattern, list, got, want)
	}
}

func wantUndone(t *testing.T, list []int, filter []int, want []int) {
	t.Helper()
	if got, ok := impl.UndoFilter(list, filter); !ok || !slices.Equal(got, want) {
		t.Fatalf("%v filtered with %v is undone to %v, %t, want %v", list, filter, got, ok, want)
	}
}

func wantNotUndone(t *testing.T, list []int, filter []int) {
	t.Helper()
	if got, ok := impl.UndoFilter(list, filter); ok || len(got) != 0 {
		t.Fatalf("%v filtered with %v is undone to %v, %t", list, filter, got, ok)
	}
}

func wantNotFiltered(t *testing.T, a []int, b []int) {
	t.Helper()
	if got := impl.FilterSequence(a, b); len(got) != 0 {
		t.Fatalf("%v is filtered with %v: %v", a, b, got)
	}
}

func wantNotRaised(t *testing.T, list []int, n int) {
	t.Helper()
	if got := impl.RaiseRate(list, n); len(got) != 0 {
		t.Fatalf("the rate of %v is raised by %d: %v", list, n, got)
	}
}

func wantNotLowered(t *testing.T, list []int, n int, phase int) {
	t.Helper()
	if got := impl.LowerRate(list, n, phase); len(got) != 0 {
		t.Fatalf("the rate of %v is lowered by %d at the phase %d: %v", list, n, phase, got)
	}
}

// wantRefusedSequence checks that a list is invalid for all functions, also beside valid lists.
func wantRefusedSequence(t *testing.T, list []int) {
	t.Helper()
	if impl.SequenceValid(list) {
		t.Fatalf("%v is valid", list)
	}
	for _, other := range [][]int{{1}, {1, 1}, {1, -1, 2}, repeated(1, 64), nil, list} {
		wantNotFiltered(t, list, other)
		wantNotFiltered(t, other, list)
		wantPlace(t, list, other, -1)
		wantPlace(t, other, list, -1)
		wantNotUndone(t, list, other)
		wantNotUndone(t, other, list)
		for _, at := range []int{0, 1, 2, len(list) / 2, len(list) - 1, len(list)} {
			wantCorrelation(t, list, other, at, 0)
			wantCorrelation(t, other, list, at, 0)
		}
	}
	for n := 1; n <= 8; n++ {
		wantNotRaised(t, list, n)
		for phase := range n {
			wantNotLowered(t, list, n, phase)
		}
	}
}

func TestBoundsOfSequences(t *testing.T) {
	if impl.MaxTaps != 64 || impl.MaxValue != 1000 {
		t.Fatal(impl.MaxTaps, impl.MaxValue)
	}
}

// Promise 59.
func TestPartsOfSequencesAreValid(t *testing.T) {
	eachSequence(func(list []int) {
		if !impl.SequenceValid(list) || !impl.SequenceValid(negated(list)) {
			t.Fatalf("%v or its negative is invalid", list)
		}
		for from := range list {
			for to := from; to <= len(list); to++ {
				if !impl.SequenceValid(list[from:to]) {
					t.Fatalf("%v is invalid", list[from:to])
				}
			}
		}
	})
	for number := -1000; number <= 1000; number++ {
		if !impl.SequenceValid([]int{number}) || !impl.SequenceValid([]int{0, number, 0}) {
			t.Fatalf("%d is invalid", number)
		}
	}
}

// Promise 59, with the number in every place.
func TestSequencesAreBounded(t *testing.T) {
	for _, number := range notValues() {
		for _, length := range sequenceLengths() {
			for place := range length {
				list := changed(mixedNumbers(length, length, 1000), place, number)
				if impl.SequenceValid(list) || impl.SequenceValid(negated(list)) {
					t.Fatalf("%v or its negative is valid", list)
				}
			}
			if length > 0 {
				wantRefusedSequence(t, changed(repeated(0, length), 0, number))
				wantRefusedSequence(t, changed(repeated(1, length), length/2, number))
				wantRefusedSequence(t, changed(repeated(1, length), length-1, number))
				wantRefusedSequence(t, changed(mixedNumbers(length, length, 1000), length-1, number))
			}
		}
	}
	for number := 1001; number < 5000; number++ {
		if impl.SequenceValid([]int{number}) || impl.SequenceValid([]int{-number}) {
			t.Fatalf("%d or its negative is valid", number)
		}
	}
}

func TestSequencesHaveAtMostMaxTapsNumbers(t *testing.T) {
	for length := range 65 {
		if !impl.SequenceValid(repeated(0, length)) || !impl.SequenceValid(repeated(-1000, length)) {
			t.Fatalf("%d numbers are invalid", length)
		}
	}
	for _, length := range []int{65, 66, 67, 100, 127, 128, 129, 256, 257, 320, 1000, 65536, 65537} {
		for _, list := range [][]int{repeated(0, length), append([]int{1}, repeated(0, length-1)...), repeated(1000, length), mixedNumbers(length, length, 1000)} {
			wantRefusedSequence(t, list)
		}
	}
}

func TestFilterExamples(t *testing.T) {
	wantInts(t, "filtered", impl.FilterSequence([]int{1, 2}, []int{1, -1}), []int{1, 1, -2})
	wantInts(t, "filtered", impl.FilterSequence([]int{1, 2, 3}, []int{4, 5}), []int{4, 13, 22, 15})
	wantInts(t, "one number each", impl.FilterSequence([]int{1000}, []int{-1000}), []int{-1000000})
	longest := impl.FilterSequence(repeated(1000, 64), repeated(-1000, 64))
	if len(longest) != 127 {
		t.Fatalf("%d numbers", len(longest))
	}
	for k, number := range longest {
		if want := -1000000 * min(k+1, 127-k); number != want {
			t.Fatalf("number %d is %d, want %d", k, number, want)
		}
	}
}

// Promise 60, against the definition of the convolution.
func TestFiltersCommute(t *testing.T) {
	eachPairOfSequences(func(a []int, b []int) {
		filtered := impl.FilterSequence(a, b)
		wantInts(t, "filtered", filtered, modelFiltered(a, b))
		wantInts(t, "the other order", impl.FilterSequence(b, a), filtered)
		if len(a) > 0 && len(b) > 0 && numberSum(filtered) != numberSum(a)*numberSum(b) {
			t.Fatalf("the numbers of %v filtered with %v have the sum %d", a, b, numberSum(filtered))
		}
	})
}

// Promise 60, with one number, of any value, as a filter.
func TestFiltersOfOneNumber(t *testing.T) {
	eachSequence(func(list []int) {
		wantInts(t, "filtered with 1", impl.FilterSequence(list, []int{1}), list)
		wantInts(t, "1 filtered", impl.FilterSequence([]int{1}, list), list)
		wantInts(t, "filtered with -1", impl.FilterSequence(list, []int{-1}), negated(list))
		wantInts(t, "filtered with 0", impl.FilterSequence(list, []int{0}), repeated(0, len(list)))
		wantInts(t, "filtered with 1000", impl.FilterSequence(list, []int{1000}), modelFiltered([]int{1000}, list))
	})
}

func TestFiltersOfNoNumbers(t *testing.T) {
	eachSequence(func(list []int) {
		wantNotFiltered(t, list, nil)
		wantNotFiltered(t, nil, list)
		wantNotFiltered(t, list, []int{})
		wantNotFiltered(t, []int{}, list)
	})
}

// Promise 134. Both ways exist only if the list stays a sequence after the first filter, too.
func TestFiltersCanBeCombined(t *testing.T) {
	check := func(list []int, first []int, second []int) {
		both, once := impl.FilterSequence(first, second), impl.FilterSequence(list, first)
		switch combined := impl.FilterSequence(list, both); {
		case !impl.SequenceValid(both):
			wantInts(t, "no combination", combined, nil)
		case !impl.SequenceValid(once):
			wantNotFiltered(t, once, second)
		default:
			wantInts(t, "one after the other", impl.FilterSequence(once, second), combined)
			wantInts(t, "combined", combined, modelFiltered(modelFiltered(list, first), second))
		}
	}
	short := listsOf([]int{-2, -1, 0, 1, 1000}, 2)
	for _, list := range short {
		for _, first := range short {
			for _, second := range short {
				check(list, first, second)
			}
		}
	}
	for seed, lengths := range [][]int{{60, 5, 3}, {60, 5, 60}, {63, 2, 63}, {1, 64, 1}, {62, 2, 2}, {2, 63, 2}, {20, 20, 20}, {32, 33, 32}, {33, 33, 2}, {2, 33, 33}, {64, 1, 64}} {
		for _, level := range []int{1, 2, 4} {
			list, first, second := mixedNumbers(seed, lengths[0], level), mixedNumbers(seed+100, lengths[1], level), mixedNumbers(seed+200, lengths[2], level)
			check(list, first, second)
			check(repeated(1, lengths[0]), repeated(1, lengths[1]), repeated(-1, lengths[2]))
			check(repeated(1000, lengths[0]), changed(repeated(0, lengths[1]), 0, -1), second)
		}
	}
}

// Promise 135, also with longer delays.
func TestFiltersCanDelay(t *testing.T) {
	eachSequence(func(list []int) {
		if len(list) == 0 {
			return
		}
		wantInts(t, "filtered with 0 and 1", impl.FilterSequence(list, []int{0, 1}), append([]int{0}, list...))
		wantInts(t, "0 and 1 filtered", impl.FilterSequence([]int{0, 1}, list), append([]int{0}, list...))
		wantInts(t, "filtered with 1 and 0", impl.FilterSequence(list, []int{1, 0}), append(slices.Clone(list), 0))
		for delay := range 64 {
			filter := append(repeated(0, delay), 1)
			wantInts(t, "delayed", impl.FilterSequence(list, filter), append(repeated(0, delay), list...))
		}
	})
}

func TestCorrelationExamples(t *testing.T) {
	list := []int{0, 3, 4}
	for at, want := range []int{12, 25, 0} {
		wantCorrelation(t, list, []int{3, 4}, at, want)
	}
	wantCorrelation(t, list, list, 0, 25)
	wantCorrelation(t, list, []int{-1, 1, 1000}, 0, 4003)
	wantCorrelation(t, list, []int{5}, 2, 20)
	wantCorrelation(t, repeated(-1000, 64), repeated(1000, 64), 0, -64000000)
	wantCorrelation(t, repeated(-1000, 64), repeated(-1000, 63), 1, 63000000)
	wantPlace(t, list, []int{3, 4}, 1)
	wantPlace(t, list, []int{-1}, 0)
	wantPlace(t, list, []int{-1, 1}, 0)
	wantPlace(t, list, []int{1, -2}, 1)
	wantPlace(t, []int{1}, []int{3, 4}, -1)
}

// Promise 61, at every index, also outside.
func TestCorrelationsAreNumbersOfAFilter(t *testing.T) {
	eachPairOfSequences(func(list []int, pattern []int) {
		back := slices.Clone(pattern)
		slices.Reverse(back)
		filtered := impl.FilterSequence(list, back)
		for at := -len(pattern) - 1; at <= len(list)+1; at++ {
			want := modelCorrelation(list, pattern, at)
			wantCorrelation(t, list, pattern, at, want)
			if len(pattern) > 0 && at >= 0 && at+len(pattern) <= len(list) && filtered[at+len(pattern)-1] != want {
				t.Fatalf("%v filtered with %v has the number %d, want %d", list, back, filtered[at+len(pattern)-1], want)
			}
		}
	})
}

// No number of such a sequence is 0, so that a sum would show.
func TestCorrelationsOutside(t *testing.T) {
	for _, length := range sequenceLengths() {
		list := repeated(1, length)
		for count := range 65 {
			pattern := repeated(1, count)
			for _, at := range append(farNumbers(), length, length+1, length-count+1, -count, 1-count) {
				if at < 0 || at > length-count {
					wantCorrelation(t, list, pattern, at, 0)
				}
			}
			if count <= length {
				wantCorrelation(t, list, pattern, 0, count)
				wantCorrelation(t, list, pattern, length-count, count)
			}
		}
	}
}

// Promise 62.
func TestBestPlaceIsFound(t *testing.T) {
	eachPairOfSequences(func(list []int, pattern []int) {
		place := impl.FindPattern(list, pattern)
		wantPlace(t, list, pattern, modelPlace(list, pattern))
		if (place < 0) != (len(pattern) == 0 || len(pattern) > len(list)) {
			t.Fatalf("%v in %v is found at %d", pattern, list, place)
		}
		if place < 0 {
			return
		}
		greatest := impl.CorrelateAt(list, pattern, place)
		for at := 0; at+len(pattern) <= len(list); at++ {
			sum := impl.CorrelateAt(list, pattern, at)
			if sum > greatest || at < place && sum == greatest {
				t.Fatalf("%v in %v is found at %d, but also at %d", pattern, list, place, at)
			}
		}
	})
}

// Promise 62, with all lists of few numbers.
func TestPlacesInShortSequences(t *testing.T) {
	patterns := listsOf([]int{-1, 0, 1}, 3)
	for _, list := range listsOf([]int{-1, 0, 1}, 6) {
		for _, pattern := range patterns {
			wantPlace(t, list, pattern, modelPlace(list, pattern))
		}
	}
}

// Promise 62: the first place is found where the pattern fits equally well in several, also if it fits badly everywhere.
func TestFirstOfEqualPlacesIsFound(t *testing.T) {
	for length := 1; length <= 64; length++ {
		for count := 1; count <= length; count++ {
			for _, pattern := range []int{0, 1, -1, 1000} {
				wantPlace(t, repeated(0, length), repeated(pattern, count), 0)
				wantPlace(t, repeated(-1, length), repeated(pattern, count), 0)
				wantPlace(t, repeated(1000, length), repeated(pattern, count), 0)
			}
		}
		for period := 2; period <= 9; period++ {
			list := make([]int, length)
			for k := period - 1; k < length; k += period {
				list[k] = 1000
			}
			want := min(period-1, length)
			if want == length {
				want = 0
			}
			wantPlace(t, list, []int{1}, want)
			wantPlace(t, negated(list), []int{-1}, want)
		}
	}
	wantPlace(t, []int{-5, -4, -4, -5, -4}, []int{3}, 1)
	wantPlace(t, []int{1, 2, 0, 1, 2, 0}, []int{1, 2}, 0)
	wantPlace(t, []int{0, 1, 2, 0, 1, 2}, []int{1, 2}, 1)
}

func TestPatternsOfOtherLengths(t *testing.T) {
	for length := range 65 {
		for count := range 65 {
			for _, list := range [][]int{repeated(1, length), mixedNumbers(length, length, 1000)} {
				pattern := mixedNumbers(count+100, count, 1000)
				wantPlace(t, list, pattern, modelPlace(list, pattern))
				if count > length {
					wantPlace(t, list, pattern, -1)
					for at := -1; at <= length; at++ {
						wantCorrelation(t, list, pattern, at, 0)
					}
				}
				if count == length && count > 0 {
					wantPlace(t, list, pattern, 0)
				}
			}
		}
		list := repeated(1000, length)
		wantPlace(t, list, nil, -1)
		wantPlace(t, list, []int{}, -1)
		wantPlace(t, nil, list, -1)
		for at := -1; at <= length+1; at++ {
			wantCorrelation(t, list, nil, at, 0)
			wantCorrelation(t, nil, list, at, 0)
		}
	}
}

// Promise 136, with all zeros before and behind, and with patterns that begin or end with zeros.
func TestPatternsAreFoundInSilence(t *testing.T) {
	check := func(pattern []int, before int, behind int) {
		list := slices.Concat(repeated(0, before), pattern, repeated(0, behind))
		want := before
		if slices.Equal(pattern, repeated(0, len(pattern))) {
			want = 0
		}
		if len(pattern) == 0 {
			want = -1
		}
		wantPlace(t, list, pattern, want)
	}
	for _, pattern := range append(listsOf([]int{-2, -1, 0, 1, 2}, 3), listsOf([]int{-1000, 0, 1000}, 4)...) {
		for _, before := range []int{0, 1, 2, 3, 30, 60} {
			for _, behind := range []int{0, 1, 2, 3, 30, 60 - before} {
				check(pattern, before, min(max(behind, 0), 60-before))
			}
		}
	}
	eachSequence(func(pattern []int) {
		for before := 0; before+len(pattern) <= 64; before++ {
			check(pattern, before, 64-len(pattern)-before)
			check(pattern, before, (64-len(pattern)-before)/2)
			check(pattern, before, 0)
		}
	})
}

func TestRateExamples(t *testing.T) {
	wantInts(t, "raised", impl.RaiseRate([]int{5, 6}, 2), []int{5, 0, 6, 0})
	wantInts(t, "raised", impl.RaiseRate([]int{-1000}, 8), []int{-1000, 0, 0, 0, 0, 0, 0, 0})
	wantInts(t, "raised", impl.RaiseRate([]int{1000, 0, 7}, 1), []int{1000, 0, 7})
	list := []int{1, 2, 3, 4, 5}
	for phase, want := range [][]int{{1, 4}, {2, 5}, {3}} {
		wantInts(t, "lowered", impl.LowerRate(list, 3, phase), want)
	}
	for phase, want := range []int{1, 2, 3, 4, 5} {
		wantInts(t, "lowered", impl.LowerRate(list, 8, phase), []int{want})
		wantInts(t, "beyond the end", impl.LowerRate(list[:phase], 8, phase), nil)
	}
	wantInts(t, "beyond the end", impl.LowerRate(list, 8, 7), nil)
}

// Promise 63, for all lengths and factors: the raised rate is refused exactly if there would be too many numbers.
func TestRaisedRatesCanBeLowered(t *testing.T) {
	for length := range 65 {
		for _, list := range sequencesOf(length) {
			for n := 1; n <= 8; n++ {
				if length*n > 64 {
					wantNotRaised(t, list, n)
					continue
				}
				raised := impl.RaiseRate(list, n)
				wantInts(t, "raised", raised, modelRaised(list, n))
				wantInts(t, "phase 0", impl.LowerRate(raised, n, 0), list)
				for phase := 1; phase < n; phase++ {
					wantInts(t, "zeros", impl.LowerRate(raised, n, phase), repeated(0, length))
				}
			}
		}
	}
}

// Promise 64, for all lengths, factors and phases, also those beyond the end.
func TestPhasesDivideASequence(t *testing.T) {
	for length := range 65 {
		for _, list := range sequencesOf(length) {
			for n := 1; n <= 8; n++ {
				together := make([]int, length)
				count := 0
				for phase := range n {
					lowered := impl.LowerRate(list, n, phase)
					wantInts(t, "lowered", lowered, modelLowered(list, n, phase))
					count += len(lowered)
					for k, number := range lowered {
						together[phase+k*n] = number
					}
				}
				if count != length {
					t.Fatalf("%d numbers have %d in all phases of %d", length, count, n)
				}
				wantInts(t, "all phases", together, list)
			}
			wantInts(t, "lowered by 1", impl.LowerRate(list, 1, 0), list)
			wantInts(t, "raised by 1", impl.RaiseRate(list, 1), list)
		}
	}
}

func TestOtherFactorsAndPhases(t *testing.T) {
	eachSequence(func(list []int) {
		for _, n := range notFactors() {
			wantNotRaised(t, list, n)
			for _, phase := range append(farNumbers(), 0, 1, 7, 8, n-1, n, n+1) {
				wantNotLowered(t, list, n, phase)
			}
		}
		for n := 1; n <= 8; n++ {
			for _, phase := range append(farNumbers(), n, n+1, n+7, 8, 16, 63, 64, -n, n+256, n+1<<32) {
				wantNotLowered(t, list, n, phase)
			}
		}
	})
}

func TestUndoExamples(t *testing.T) {
	wantUndone(t, []int{1, 1, -2}, []int{1, -1}, []int{1, 2, 0})
	wantUndone(t, []int{1, 1, -2}, []int{1}, []int{1, 1, -2})
	wantUndone(t, []int{1, 0, 0, 0}, []int{1, -2}, []int{1, 2, 4, 8})
	wantUndone(t, []int{1, 0, 0, 0, 0}, []int{1, 1, -1}, []int{1, -1, 2, -3, 5})
	wantUndone(t, []int{7}, []int{1, 1000, -1000}, []int{7})
	wantUndone(t, nil, []int{1, 5}, nil)
	wantNotUndone(t, []int{1}, []int{2})
	wantNotUndone(t, []int{2, 1000}, []int{1, -1, 0})
}

// filtersOf are filters whose first number is 1 and whose other numbers are a list.
func filtersOf(lists [][]int) [][]int {
	var filters [][]int
	for _, list := range lists {
		filters = append(filters, append([]int{1}, list...))
	}
	return filters
}

// wantUndoneLikeModel checks promise 9, too.
func wantUndoneLikeModel(t *testing.T, list []int, filter []int) {
	t.Helper()
	want, ok := modelUndone(list, filter)
	if !ok {
		wantNotUndone(t, list, filter)
		return
	}
	wantUndone(t, list, filter, want)
	if len(list) > 0 {
		undone, _ := impl.UndoFilter(list, filter)
		wantInts(t, "filtered again", impl.FilterSequence(undone, filter)[:len(list)], list)
	}
}

// Promise 9, with all short sequences, and with longer ones and the filters that leave them in the range.
func TestFiltersCanBeUndone(t *testing.T) {
	for _, numbers := range [][]int{{-2, -1, 0, 1, 2}, {-1000, -1, 0, 1, 1000}} {
		for _, list := range listsOf(numbers, 3) {
			for _, filter := range filtersOf(listsOf(numbers, 3)) {
				wantUndoneLikeModel(t, list, filter)
			}
		}
	}
	eachSequence(func(list []int) {
		for _, filter := range [][]int{{1}, {1, 0}, {1, 1}, {1, -1}, {1, 0, 0, -1}, {1, 1, 1}, {1, -1, 1, -1}, {1, 2}, {1, 0, 1000}, append([]int{1}, repeated(0, 63)...), changed(repeated(0, 64), 0, 1)} {
			wantUndoneLikeModel(t, list, filter)
		}
		if len(list) > 0 {
			wantUndoneLikeModel(t, []int{1, 0, 0, 2}, changed(list, 0, 1))
		}
	})
}

// Promise 65, with levels at which the filtered sequence is always valid, and with some at which it is not.
func TestUndoingReturnsWhatWasFiltered(t *testing.T) {
	for _, length := range sequenceLengths() {
		for _, taps := range sequenceLengths() {
			for seed, levels := range [][]int{{15, 1}, {1, 15}, {3, 5}, {1000, 0}, {400, 1}, {1, 400}, {1000, 1000}} {
				if length == 0 || taps == 0 {
					continue
				}
				list, filter := mixedNumbers(seed+length, length, levels[0]), changed(mixedNumbers(seed-taps, taps, levels[1]), 0, 1)
				filtered := impl.FilterSequence(list, filter)[:length]
				if impl.SequenceValid(filtered) {
					wantUndone(t, filtered, filter, list)
				} else if levels[0]*levels[1] <= 15 {
					t.Fatalf("%v filtered with %v is invalid", list, filter)
				}
			}
		}
	}
}

// Promise 65, with all short sequences.
func TestUndoingShortSequences(t *testing.T) {
	lists := listsOf([]int{-2, -1, 0, 1, 2}, 4)
	for _, filter := range filtersOf(listsOf([]int{-3, -1, 0, 1, 3}, 2)) {
		for _, list := range lists[1:] {
			wantUndone(t, impl.FilterSequence(list, filter)[:len(list)], filter, list)
		}
	}
}

// A filter that subtracts an earlier number leaves the filtered ones valid, also if the undone one is one beyond the bound.
func TestBoundsOfUndoneNumbers(t *testing.T) {
	for length := 2; length <= 64; length++ {
		for place := 1; place < length; place++ {
			for _, lag := range []int{1, 2, place, place/2 + 1} {
				if lag > place {
					continue
				}
				filter := append([]int{1}, repeated(0, lag)...)
				filter[lag] = -1
				for _, number := range []int{999, 1000, 1001} {
					undone := changed(changed(repeated(0, length), place-lag, 1), place, number)
					if place+lag < length {
						undone[place+lag] = 1
					}
					list := modelFiltered(undone, filter)[:length]
					if slices.Max(list) > 1000 || slices.Min(list) < -1000 {
						t.Fatalf("%v is out of range", list)
					}
					if number == 1001 {
						wantNotUndone(t, list, filter)
						wantNotUndone(t, negated(list), filter)
						continue
					}
					wantUndone(t, list, filter, undone)
					wantUndone(t, negated(list), filter, negated(undone))
				}
			}
		}
	}
	wantUndone(t, []int{1, 0}, []int{1, 1000}, []int{1, -1000})
	wantUndone(t, []int{1, 0}, []int{1, -1000}, []int{1, 1000})
	wantNotUndone(t, []int{1, -1}, []int{1, 1000})
	wantNotUndone(t, []int{1, 1}, []int{1, -1000})
	wantUndone(t, []int{1000, -1000}, []int{1}, []int{1000, -1000})
	wantNotUndone(t, []int{1000, -1}, []int{1, 1})
	wantUndone(t, []int{1000, 0}, []int{1, 1}, []int{1000, -1000})
}

// Such numbers grow until they have no digits left in an int, and would seem to be in the range again.
func TestUndoneNumbersThatGrow(t *testing.T) {
	for _, factor := range []int{2, 4, 8, 16, 32, 64, 128, 256, 512, 3, 10, 999, 1000} {
		for _, first := range []int{1, -1, 2, 500, 1000, -1000} {
			list := append([]int{first}, repeated(0, 63)...)
			wantNotUndone(t, list, []int{1, factor})
			wantNotUndone(t, list, []int{1, -factor})
			wantNotUndone(t, list, []int{1, 0, factor})
			wantNotUndone(t, list, append([]int{1}, repeated(-factor, 63)...))
		}
	}
}

// Numbers of the filter behind as many as the sequence has do not matter.
func TestFiltersLongerThanTheSequence(t *testing.T) {
	for _, length := range sequenceLengths() {
		for taps := length + 1; taps <= 64; taps++ {
			undone, reached := mixedNumbers(length, length, 8), changed(mixedNumbers(taps, max(1, length), 1), 0, 1)
			filter := append(slices.Clone(reached), mixedNumbers(taps, taps-len(reached), 1000)...)
			list := modelFiltered(undone, reached)
			wantUndone(t, list[:length], filter, undone)
		}
	}
}

func TestFiltersWithAnotherFirstNumber(t *testing.T) {
	wantNotFirst := func(number int) {
		for _, list := range [][]int{nil, {0}, {1}, {number}, {2, 4, 6}, repeated(0, 64), mixedNumbers(number, 64, 1)} {
			wantNotUndone(t, list, []int{number})
			wantNotUndone(t, list, []int{number, 1})
			wantNotUndone(t, list, append([]int{number}, repeated(0, 63)...))
		}
	}
	for number := -1000; number <= 1000; number++ {
		if number != 1 {
			wantNotFirst(number)
		}
	}
	for _, number := range notValues() {
		wantNotFirst(number)
	}
	eachSequence(func(list []int) {
		wantNotUndone(t, list, nil)
		wantNotUndone(t, list, []int{})
		wantNotUndone(t, list, []int{0, 1})
		wantNotUndone(t, list, []int{-1})
	})
}

func TestFilterArgumentsAreNotWritten(t *testing.T) {
	check := func(a []int, b []int) {
		first, wholeFirst := guarded(a, 7)
		second, wholeSecond := guarded(b, -7)
		beforeFirst, beforeSecond := slices.Clone(wholeFirst), slices.Clone(wholeSecond)
		impl.SequenceValid(first)
		impl.FindPattern(first, second)
		overwrite(impl.FilterSequence(first, second), 9)
		undone, _ := impl.UndoFilter(first, second)
		overwrite(undone, 9)
		for number := -1; number <= 9; number++ {
			impl.CorrelateAt(first, second, number)
			overwrite(impl.RaiseRate(first, number), 9)
			overwrite(impl.LowerRate(first, number, 0), 9)
			overwrite(impl.LowerRate(first, 8, number), 9)
		}
		wantInts(t, "first", wholeFirst, beforeFirst)
		wantInts(t, "second", wholeSecond, beforeSecond)
	}
	eachSequence(func(list []int) {
		for _, other := range [][]int{nil, {1}, {1, -1}, {2}, list, append([]int{1}, repeated(0, 63)...), {1001}, append(slices.Clone(list), math.MinInt)} {
			check(list, other)
			check(other, list)
		}
	})
	check(repeated(3, 65), repeated(1, 100))
}

// Filters with 1, and the factor 1, leave a sequence as it is; the results are new memory nevertheless.
func TestFilterResultsAreNewMemory(t *testing.T) {
	eachSequence(func(list []int) {
		for _, filter := range [][]int{{1}, {1, 0}, {1, 1}} {
			first, second := slices.Clone(list), slices.Clone(filter)
			filtered, again := impl.FilterSequence(first, second), impl.FilterSequence(second, first)
			undone, ok := impl.UndoFilter(first, second)
			undoneAgain, _ := impl.UndoFilter(first, second)
			overwrite(first, 9)
			overwrite(second, 9)
			overwrite(again, 9)
			overwrite(undoneAgain, 9)
			wantInts(t, "FilterSequence", filtered, modelFiltered(list, filter))
			want, wantOk := modelUndone(list, filter)
			wantInts(t, "UndoFilter", undone, want)
			if ok != wantOk {
				t.Fatalf("%v filtered with %v is undone: %t", list, filter, ok)
			}
		}
		for n := 1; n <= 8; n++ {
			argument := slices.Clone(list)
			raised, lowered := impl.RaiseRate(argument, n), impl.LowerRate(argument, n, n-1)
			raisedAgain, loweredAgain := impl.RaiseRate(argument, n), impl.LowerRate(argument, n, n-1)
			overwrite(argument, 9)
			overwrite(raisedAgain, 9)
			overwrite(loweredAgain, 9)
			wantInts(t, "LowerRate", lowered, modelLowered(list, n, n-1))
			if len(list)*n <= 64 {
				wantInts(t, "RaiseRate", raised, modelRaised(list, n))
			}
		}
	})
}

// The results are the same after every call, also if results are written to.
func TestFiltersKeepNoState(t *testing.T) {
	for _, length := range sequenceLengths() {
		list, filter := mixedNumbers(length, length, 15), []int{1, 0, 1}
		for _, other := range [][]int{repeated(1000, 64), {1001}, repeated(-1, 65), {1}} {
			overwrite(impl.FilterSequence(other, other), 9)
			overwrite(impl.RaiseRate(other, 1), 9)
			overwrite(impl.LowerRate(other, 1, 0), 9)
			undone, _ := impl.UndoFilter(other, []int{1})
			overwrite(undone, 9)
			impl.FindPattern(other, []int{1})
			impl.CorrelateAt(other, []int{1}, 0)
		}
		wantInts(t, "FilterSequence", impl.FilterSequence(list, filter), modelFiltered(list, filter))
		wantUndoneLikeModel(t, list, filter)
		wantPlace(t, list, filter, modelPlace(list, filter))
		wantCorrelation(t, list, filter, 1, modelCorrelation(list, filter, 1))
		wantInts(t, "LowerRate", impl.LowerRate(list, 3, 1), modelLowered(list, 3, 1))
		wantInts(t, "RaiseRate", impl.RaiseRate(list[:length/8], 8), modelRaised(list[:length/8], 8))
	}
}
