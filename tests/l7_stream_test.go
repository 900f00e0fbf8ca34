package tests

import (
	"math/bits"
	"slices"
	"testing"

	"loop.example/softwareradio/impl"
)

// modelPair returns the two bits of the code for a bit, the bit before it, and the one before that.
func modelPair(bit int, before int, second int) [2]int {
	return [2]int{(bit + before + second) % 2, (bit + second) % 2}
}

// modelStream codes a list without the program.
func modelStream(list []int) []int {
	x := slices.Concat([]int{0, 0}, list, []int{0, 0})
	var coded []int
	for k := 2; k < len(x); k++ {
		pair := modelPair(x[k], x[k-1], x[k-2])
		coded = append(coded, pair[0], pair[1])
	}
	return coded
}

// packed returns the number whose digits are the bits of a list.
func packed(list []int) uint64 {
	number := uint64(0)
	for _, bit := range list {
		number = 2*number + uint64(bit)
	}
	return number
}

// packedStreams has the codes of all lists of count bits, in lexicographic order.
func packedStreams(count int) []uint64 {
	var codes []uint64
	for number := range 1 << count {
		codes = append(codes, packed(modelStream(digits(number, count))))
	}
	return codes
}

// nearestStreams compares a list with all codes: it returns the least distance, and the indices of all codes that have it.
func nearestStreams(list uint64, codes []uint64) (int, []int) {
	least, equals := 64, []int{}
	for index, code := range codes {
		distance := bits.OnesCount64(list ^ code)
		if distance < least {
			least, equals = distance, equals[:0]
		}
		if distance == least {
			equals = append(equals, index)
		}
	}
	return least, equals
}

// leastAndCount is a distance and how many lists of bits have it.
type leastAndCount struct {
	distance int
	count    int
}

// or returns the least distance of two groups of lists of bits, of which one may be empty.
func (a leastAndCount) or(b leastAndCount) leastAndCount {
	if a.count == 0 || b.count > 0 && b.distance < a.distance {
		return b
	}
	if b.count > 0 && b.distance == a.distance {
		a.count += b.count
	}
	return a
}

// leastBehind computes, without the program, the least distance of a list from the codes of all bits that begin with a prefix, and the number of these codes. It reads the list from its beginning; ways has an entry for the last bit and the one before it.
func leastBehind(list []int, prefix []int) leastAndCount {
	ways := [2][2]leastAndCount{{{0, 1}}}
	for k := range len(list) / 2 {
		var longer [2][2]leastAndCount
		for bit := range 2 {
			if k < len(prefix) && bit != prefix[k] || k >= len(list)/2-2 && bit != 0 {
				continue
			}
			for number := range 4 {
				before, second := number/2, number%2
				pair := modelPair(bit, before, second)
				way := ways[before][second]
				way.distance += differences(pair[:], list[2*k:2*k+2])
				longer[bit][before] = longer[bit][before].or(way)
			}
		}
		ways = longer
	}
	return ways[0][0]
}

// modelDecoded decodes a list without the program: a bit is 0 if some of the best bits have a 0 there. It returns the number of the best bits, too.
func modelDecoded(list []int) ([]int, leastAndCount) {
	least := leastBehind(list, nil)
	var decoded []int
	for range len(list)/2 - 2 {
		decoded = append(decoded, 0)
		if leastBehind(list, decoded).distance > least.distance {
			decoded[len(decoded)-1] = 1
		}
	}
	return decoded, least
}

// someStreams are lists of count bits.
func someStreams(count int) [][]int {
	lists := [][]int{repeated(0, count), repeated(1, count)}
	if count > 1 {
		alternating := repeated(0, count)
		for k := 0; k < count; k += 2 {
			alternating[k] = 1
		}
		lists = append(lists, alternating, mixedBits(1, count), mixedBits(2, count))
	}
	return lists
}

// eachStream calls a test with lists of bits of every length.
func eachStream(test func(list []int)) {
	for count := range 41 {
		for _, list := range someStreams(count) {
			test(list)
		}
	}
}

// shortLists calls a test with all lists that at most most bits could be coded to, the codes of as many bits, and the list as a number.
func shortLists(most int, test func(list []int, number uint64, codes []uint64)) {
	for count := range most + 1 {
		codes := packedStreams(count)
		for number := range 1 << (2*count + 4) {
			test(digits(number, 2*count+4), uint64(number), codes)
		}
	}
}

// longLists calls a test with lists of all lengths that are nearly codes, far from codes, zeros, ones and mixed.
func longLists(seeds int, test func(list []int)) {
	for length := 4; length <= 84; length += 2 {
		for seed := range seeds {
			test(mixedBits(seed, length))
			code := modelStream(mixedBits(seed, length/2-2))
			test(code)
			test(withInverted(seed, code, 1+seed%12))
		}
		test(repeated(0, length))
		test(repeated(1, length))
	}
}

// withInverted returns a copy of a list with the bits at some places, not more than count, inverted.
func withInverted(seed int, list []int, count int) []int {
	list = slices.Clone(list)
	for k := range count {
		list[mixed(seed, 1000+k)%uint64(len(list))] ^= 1
	}
	return list
}

func wantDecodedStream(t *testing.T, list []int, want []int, errors int) {
	t.Helper()
	if got := impl.DecodeStream(list); !slices.Equal(got, want) {
		t.Fatalf("%v is decoded to %v, want %v", list, got, want)
	}
	wantStreamErrors(t, list, errors)
}

func wantStreamErrors(t *testing.T, list []int, want int) {
	t.Helper()
	if got := impl.StreamErrors(list); got != want {
		t.Fatalf("%v has %d errors, want %d", list, got, want)
	}
}

func wantRefusedStream(t *testing.T, list []int) {
	t.Helper()
	wantDecodedStream(t, list, nil, -1)
}

func TestStreamSize(t *testing.T) {
	if impl.MaxStream != 40 {
		t.Fatal(impl.MaxStream)
	}
}

// The codes are computed by hand.
func TestEncodeStreamExamples(t *testing.T) {
	wantInts(t, "nil", impl.EncodeStream(nil), []int{0, 0, 0, 0})
	wantInts(t, "no bits", impl.EncodeStream([]int{}), []int{0, 0, 0, 0})
	wantInts(t, "0", impl.EncodeStream([]int{0}), []int{0, 0, 0, 0, 0, 0})
	wantInts(t, "1", impl.EncodeStream([]int{1}), []int{1, 1, 1, 0, 1, 1})
	wantInts(t, "10", impl.EncodeStream([]int{1, 0}), []int{1, 1, 1, 0, 1, 1, 0, 0})
	wantInts(t, "01", impl.EncodeStream([]int{0, 1}), []int{0, 0, 1, 1, 1, 0, 1, 1})
	wantInts(t, "11", impl.EncodeStream([]int{1, 1}), []int{1, 1, 0, 1, 0, 1, 1, 1})
	wantInts(t, "101", impl.EncodeStream([]int{1, 0, 1}), []int{1, 1, 1, 0, 0, 0, 1, 0, 1, 1})
	wantInts(t, "111", impl.EncodeStream([]int{1, 1, 1}), []int{1, 1, 0, 1, 1, 0, 0, 1, 1, 1})
	wantInts(t, "1011", impl.EncodeStream([]int{1, 0, 1, 1}), []int{1, 1, 1, 0, 0, 0, 0, 1, 0, 1, 1, 1})
	wantInts(t, "zeros", impl.EncodeStream(repeated(0, 40)), repeated(0, 84))
	inside := slices.Repeat([]int{1, 0}, 38)
	wantInts(t, "ones", impl.EncodeStream(repeated(1, 40)), slices.Concat([]int{1, 1, 0, 1}, inside, []int{0, 1, 1, 1}))
}

func TestEncodeStreamIsSums(t *testing.T) {
	eachStream(func(list []int) {
		wantInts(t, "code", impl.EncodeStream(list), modelStream(list))
	})
	for count := range 11 {
		for number := range 1 << count {
			list := digits(number, count)
			wantInts(t, "code", impl.EncodeStream(list), modelStream(list))
		}
	}
}

// Promise 50.
func TestStreamsAreDecoded(t *testing.T) {
	check := func(list []int) {
		code := impl.EncodeStream(list)
		if len(code) != 2*len(list)+4 || !impl.BitsValid(code) {
			t.Fatalf("the code of %v is %v", list, code)
		}
		wantDecodedStream(t, code, list, 0)
	}
	eachStream(check)
	for count := range 11 {
		for number := range 1 << count {
			check(digits(number, count))
		}
	}
	for seed := range 200 {
		check(mixedBits(seed, seed%41))
	}
}

func wantSumOfCodes(t *testing.T, a []int, b []int) {
	t.Helper()
	sum := impl.AddBits(impl.EncodeStream(a), impl.EncodeStream(b))
	if len(sum) != 2*len(a)+4 {
		t.Fatalf("the codes of %v and %v have the sum %v", a, b, sum)
	}
	wantInts(t, "code of the sum", impl.EncodeStream(impl.AddBits(a, b)), sum)
}

// Promise 50, with all pairs of short lists.
func TestStreamsAreLinear(t *testing.T) {
	for count := range 7 {
		for a := range 1 << count {
			for b := range 1 << count {
				wantSumOfCodes(t, digits(a, count), digits(b, count))
			}
		}
	}
	for count := range 41 {
		for _, a := range someStreams(count) {
			for _, b := range someStreams(count) {
				wantSumOfCodes(t, a, b)
			}
			for place := range count {
				wantSumOfCodes(t, a, inverted(repeated(0, count), place))
			}
		}
	}
}

// Promise 6, with all lists of up to 16 bits, against all codes. Lists that are equally near to two codes or more are among them.
func TestDecoderIsOptimalForShortLists(t *testing.T) {
	ties := map[int]int{}
	shortLists(6, func(list []int, number uint64, codes []uint64) {
		least, equals := nearestStreams(number, codes)
		want := digits(equals[0], len(list)/2-2)
		wantDecodedStream(t, list, want, least)
		if distance := impl.HammingDistance(impl.EncodeStream(want), list); distance != least {
			t.Fatalf("%v has the distance %d from the code of %v, want %d", list, distance, want, least)
		}
		ties[len(equals)]++
	})
	for _, count := range []int{1, 2, 3, 4, 6} {
		if ties[count] == 0 {
			t.Fatalf("no lists are equally near to %d codes: %v", count, ties)
		}
	}
}

// The model of the tests that follow, against all codes.
func TestModelOfDecoder(t *testing.T) {
	shortLists(4, func(list []int, number uint64, codes []uint64) {
		least, equals := nearestStreams(number, codes)
		decoded, got := modelDecoded(list)
		wantInts(t, "model", decoded, digits(equals[0], len(list)/2-2))
		if got != (leastAndCount{least, len(equals)}) {
			t.Fatalf("the model says %v for %v, which has the distance %d from %d codes", got, list, least, len(equals))
		}
	})
}

// Promise 6, with lists of all lengths, also with many errors.
func TestDecoderIsOptimalForLongLists(t *testing.T) {
	ties := map[int]int{}
	longLists(12, func(list []int) {
		want, least := modelDecoded(list)
		wantDecodedStream(t, list, want, least.distance)
		if distance := impl.HammingDistance(impl.EncodeStream(want), list); distance != least.distance {
			t.Fatalf("%v has the distance %d from the code of %v, want %d", list, distance, want, least.distance)
		}
		ties[min(least.count, 10)]++
	})
	for _, count := range []int{1, 2, 3, 10} {
		if ties[count] == 0 {
			t.Fatalf("no lists are equally near to %d codes: %v", count, ties)
		}
	}
}

// Promise 6: no other bits have a code that is nearer, with all bits up to 11 and with bits near to the decoded ones.
func TestNoCodeIsNearer(t *testing.T) {
	for _, count := range []int{7, 8, 9, 10, 11} {
		codes := packedStreams(count)
		for seed := range 200 {
			list := mixedBits(seed, 2*count+4)
			least, equals := nearestStreams(packed(list), codes)
			wantDecodedStream(t, list, digits(equals[0], count), least)
		}
	}
	longLists(6, func(list []int) {
		decoded, errors := impl.DecodeStream(list), impl.StreamErrors(list)
		for first := range decoded {
			for second := first; second < len(decoded) && second < first+4; second++ {
				for _, other := range [][]int{inverted(decoded, first), inverted(decoded, first, second), mixedBits(first, len(decoded))} {
					distance := impl.HammingDistance(impl.EncodeStream(other), list)
					if distance < errors || distance == errors && slices.Compare(other, decoded) < 0 {
						t.Fatalf("%v is decoded to %v with %d errors, but %v has %d", list, decoded, errors, other, distance)
					}
				}
			}
		}
	})
}

// equallyNear are lists, a distance, and all bits whose codes have this least distance, in lexicographic order; found by hand and by comparison with all codes.
func equallyNear() []struct {
	list     []int
	distance int
	equals   [][]int
} {
	return []struct {
		list     []int
		distance int
		equals   [][]int
	}{
		{[]int{1, 1, 0, 1, 0, 0, 0, 0}, 3, [][]int{{0, 0}, {1, 1}}},
		{[]int{0, 0, 0, 0, 0, 1, 1, 1}, 3, [][]int{{0, 0}, {1, 1}}},
		{[]int{1, 1, 1, 0, 1, 0, 1, 1}, 3, [][]int{{0, 1}, {1, 0}}},
		{[]int{0, 0, 0, 1, 0, 1, 0, 1, 0, 0}, 3, [][]int{{0, 0, 0}, {0, 1, 1}, {1, 1, 0}}},
		{[]int{1, 1, 1, 1, 1, 0, 0, 1, 0, 0}, 3, [][]int{{0, 1, 0}, {1, 0, 0}, {1, 1, 1}}},
		{[]int{0, 1, 0, 0, 0, 0, 1, 1, 0, 1}, 4, [][]int{{0, 0, 0}, {1, 0, 1}, {1, 1, 0}}},
		{[]int{1, 0, 1, 1, 1, 1, 1, 0, 1, 0}, 4, [][]int{{0, 0, 1}, {0, 1, 0}, {1, 0, 0}}},
		{[]int{1, 1, 1, 1, 1, 1, 1, 1, 0, 1, 1, 0}, 4, [][]int{{1, 0, 0, 1}, {1, 1, 0, 0}, {1, 1, 1, 1}}},
		{[]int{0, 0, 0, 1, 0, 1, 0, 1, 0, 0, 0, 1}, 4, [][]int{{0, 0, 0, 0}, {0, 0, 1, 1}, {0, 1, 1, 0}, {1, 1, 0, 0}}},
		{[]int{1, 1, 1, 1, 1, 0, 1, 0, 1, 0, 1, 0}, 4, [][]int{{0, 1, 0, 1}, {1, 0, 0, 1}, {1, 0, 1, 0}, {1, 1, 1, 1}}},
		{[]int{0, 1, 0, 0, 0, 1, 0, 1, 0, 1, 0, 0, 0, 1}, 5, [][]int{{0, 0, 0, 0, 0}, {0, 0, 0, 1, 1}, {0, 0, 1, 1, 0}, {0, 1, 1, 0, 0}, {1, 1, 0, 0, 0}, {1, 1, 0, 1, 1}}},
		{[]int{1, 0, 1, 1, 1, 1, 1, 0, 1, 0, 1, 0, 1, 0}, 5, [][]int{{0, 0, 1, 0, 1}, {0, 1, 0, 0, 1}, {0, 1, 0, 1, 0}, {0, 1, 1, 1, 1}, {1, 0, 0, 0, 1}, {1, 0, 0, 1, 0}}},
	}
}

// Promise 6: among equals the first bits are returned.
func TestFirstOfEqualsIsDecoded(t *testing.T) {
	for _, tie := range equallyNear() {
		wantDecodedStream(t, tie.list, tie.equals[0], tie.distance)
		for number := range 1 << len(tie.equals[0]) {
			other := digits(number, len(tie.equals[0]))
			distance := impl.HammingDistance(impl.EncodeStream(other), tie.list)
			equal := slices.ContainsFunc(tie.equals, func(one []int) bool { return slices.Equal(one, other) })
			if distance < tie.distance || equal != (distance == tie.distance) {
				t.Fatalf("%v has the distance %d from the code of %v, want %d for %v", tie.list, distance, other, tie.distance, tie.equals)
			}
		}
	}
}

// middleLists calls a test with all lists that have the distance 3 both from the code of a list and from that of the list with two neighbouring bits inverted.
func middleLists(list []int, place int, test func(received []int)) {
	code, step := modelStream(list), modelStream(inverted(repeated(0, len(list)), place, place+1))
	var places []int
	for k, bit := range step {
		if bit == 1 {
			places = append(places, k)
		}
	}
	for third := range places {
		for second := range third {
			for first := range second {
				test(inverted(code, places[first], places[second], places[third]))
			}
		}
	}
}

// Promise 6, with lists in the middle between two codes, at every place.
func TestEqualsAtEveryPlace(t *testing.T) {
	for _, count := range []int{2, 3, 4, 17, 40} {
		for place := range count - 1 {
			ties := 0
			for _, list := range someStreams(count) {
				smaller := slices.MinFunc([][]int{list, inverted(list, place, place+1)}, slices.Compare[[]int])
				middleLists(list, place, func(received []int) {
					want, least := modelDecoded(received)
					wantDecodedStream(t, received, want, least.distance)
					if least == (leastAndCount{3, 2}) {
						wantInts(t, "smaller list", want, smaller)
						ties++
					}
				})
			}
			if ties == 0 {
				t.Fatalf("no lists are equally near to two codes of %d bits that differ in the bits %d and %d", count, place, place+1)
			}
		}
	}
}

// Promise 51.
func TestFewChangesLeadToFewErrors(t *testing.T) {
	check := func(list []int) {
		errors := impl.StreamErrors(list)
		ones := differences(list, repeated(0, len(list)))
		if errors < 0 || errors > ones {
			t.Fatalf("%v has %d ones and %d errors", list, ones, errors)
		}
		if code := modelStream(impl.DecodeStream(list)); slices.Equal(code, list) != (errors == 0) {
			t.Fatalf("%v has %d errors, and %v is the code of the decoded bits", list, errors, code)
		}
		for place := range list {
			if other := impl.StreamErrors(inverted(list, place)); other < errors-1 || other > errors+1 || other < 0 {
				t.Fatalf("%v has %d errors, and %d with the bit %d inverted", list, errors, other, place)
			}
		}
	}
	shortLists(5, func(list []int, _ uint64, _ []uint64) { check(list) })
	longLists(6, check)
}

// Promise 51: among all lists, the number is 0 for codes only.
func TestOnlyCodesHaveNoErrors(t *testing.T) {
	shortLists(6, func(list []int, number uint64, codes []uint64) {
		if slices.Contains(codes, number) != (impl.StreamErrors(list) == 0) {
			t.Fatalf("%v has %d errors", list, impl.StreamErrors(list))
		}
	})
}

// Promise 113, with one error in every place.
func TestOneErrorInAStreamIsCorrected(t *testing.T) {
	check := func(list []int) {
		code := impl.EncodeStream(list)
		for place := range code {
			wantDecodedStream(t, inverted(code, place), list, 1)
		}
	}
	eachStream(check)
	for seed := range 200 {
		check(mixedBits(seed, seed%41))
	}
}

// Promises 6 and 113, with two errors in any two places of codes of every length.
func TestTwoErrorsInAStreamAreCorrected(t *testing.T) {
	eachStream(func(list []int) {
		code := impl.EncodeStream(list)
		for second := range code {
			for first := range second {
				wantDecodedStream(t, inverted(code, first, second), list, 2)
			}
		}
	})
}

// Promise 113, with all short lists.
func TestTwoErrorsInAllShortStreams(t *testing.T) {
	for count := range 8 {
		for number := range 1 << count {
			list := digits(number, count)
			code := impl.EncodeStream(list)
			for second := range code {
				for first := range second {
					wantDecodedStream(t, inverted(code, first, second), list, 2)
				}
			}
		}
	}
}

// Promise 113, with neighbouring places, and the first and the last ones, for many lists.
func TestTwoErrorsInNamedPlacesOfStreams(t *testing.T) {
	for seed := range 300 {
		list := mixedBits(seed, seed%41)
		code := impl.EncodeStream(list)
		last := len(code) - 1
		places := [][2]int{{0, 1}, {0, 2}, {1, 2}, {0, last}, {1, last}, {0, last - 1}, {last - 1, last}, {last - 2, last}, {last - 3, last}}
		for place := range last {
			places = append(places, [2]int{place, place + 1})
		}
		for _, pair := range places {
			wantDecodedStream(t, inverted(code, pair[0], pair[1]), list, 2)
		}
	}
}

// More errors are corrected, too, if no more than two of them are near to each other.
func TestErrorsFarFromEachOther(t *testing.T) {
	for seed := range 50 {
		list := mixedBits(seed, 40)
		code := impl.EncodeStream(list)
		for start := range 14 {
			wrong, count := slices.Clone(code), 0
			for place := start; place < len(wrong)-1; place += 28 {
				wrong[place] ^= 1
				wrong[place+1] ^= 1
				count += 2
			}
			wantDecodedStream(t, wrong, list, count)
		}
	}
}

// Three errors towards another code are decoded to its bits.
func TestThreeErrorsInAStream(t *testing.T) {
	eachStream(func(list []int) {
		code := impl.EncodeStream(list)
		for place := range list {
			other := inverted(list, place)
			near := impl.EncodeStream(other)
			for _, kept := range [][2]int{{0, 1}, {0, 4}, {2, 5}, {1, 5}, {4, 5}} {
				wrong := slices.Clone(near)
				wrong[2*place+kept[0]], wrong[2*place+kept[1]] = code[2*place+kept[0]], code[2*place+kept[1]]
				if distance := impl.HammingDistance(wrong, code); distance != 3 {
					t.Fatalf("%v has the distance %d from %v", wrong, distance, code)
				}
				wantDecodedStream(t, wrong, other, 2)
			}
		}
	})
}

// wantFarCodes returns the distance of the codes of two different lists.
func wantFarCodes(t *testing.T, a []int, b []int) int {
	t.Helper()
	distance := impl.HammingDistance(impl.EncodeStream(a), impl.EncodeStream(b))
	if distance < 5 {
		t.Fatalf("the codes of %v and %v have the distance %d", a, b, distance)
	}
	return distance
}

// Promise 132, with all pairs of short lists.
func TestDifferentStreamsDifferInFivePlaces(t *testing.T) {
	for count := range 8 {
		for a := range 1 << count {
			for b := range a {
				wantFarCodes(t, digits(a, count), digits(b, count))
			}
		}
	}
}

// Promise 132, with lists that differ in one bit, which have the distance 5, the last bit included.
func TestStreamsThatDifferInOneBit(t *testing.T) {
	eachStream(func(list []int) {
		for place := range list {
			if distance := wantFarCodes(t, list, inverted(list, place)); distance != 5 {
				t.Fatalf("the codes of %v and of the list with the bit %d inverted have the distance %d", list, place, distance)
			}
		}
	})
}

// Promise 132, with lists that differ in any two bits, in any bits of eight neighbouring ones, and in many bits.
func TestStreamsThatDifferInMoreBits(t *testing.T) {
	for count := range 41 {
		list := mixedBits(3, count)
		for second := range list {
			for first := range second {
				wantFarCodes(t, list, inverted(list, first, second))
			}
		}
		for place := range max(0, count-7) {
			for number := 1; number < 256; number++ {
				other := slices.Clone(list)
				copy(other[place:], impl.AddBits(list[place:place+8], digits(number, 8)))
				wantFarCodes(t, list, other)
			}
		}
		for seed := range 20 {
			if other := mixedBits(100+seed, count); !slices.Equal(list, other) {
				wantFarCodes(t, list, other)
			}
		}
	}
}

func TestNoBitsAndOneBit(t *testing.T) {
	for number := range 16 {
		list := digits(number, 4)
		wantDecodedStream(t, list, nil, bits.OnesCount(uint(number)))
	}
	wantDecodedStream(t, repeated(0, 6), []int{0}, 0)
	wantDecodedStream(t, []int{0, 1, 1, 0, 1, 0}, []int{1}, 2)
	wantDecodedStream(t, []int{0, 1, 1, 0, 0, 0}, []int{0}, 2)
	wantDecodedStream(t, repeated(1, 6), []int{1}, 1)
	wantDecodedStream(t, []int{0, 0, 0, 1, 0, 0}, []int{0}, 1)
}

func TestLongestStreams(t *testing.T) {
	for _, list := range someStreams(40) {
		code := impl.EncodeStream(list)
		if len(code) != 84 {
			t.Fatalf("40 bits are coded with %d", len(code))
		}
		wantDecodedStream(t, code, list, 0)
	}
	want, least := modelDecoded(repeated(1, 84))
	wantDecodedStream(t, repeated(1, 84), want, least.distance)
}

func TestStreamsOfOtherLengths(t *testing.T) {
	for length := range 300 {
		for _, list := range [][]int{repeated(0, length), repeated(1, length), mixedBits(length, length)} {
			coded := impl.EncodeStream(list)
			if length > 40 {
				wantInts(t, "too many bits", coded, nil)
			} else {
				wantInts(t, "code", coded, modelStream(list))
			}
			if length%2 == 1 || length < 4 || length > 84 {
				wantRefusedStream(t, list)
			} else if decoded := impl.DecodeStream(list); len(decoded) != length/2-2 || !impl.BitsValid(decoded) || impl.StreamErrors(list) < 0 {
				t.Fatalf("%v is decoded to %v", list, decoded)
			}
		}
	}
	for _, length := range []int{511, 512, 1022, 1023, 1024, 1025, 1026, 4096, 65536 + 8} {
		for _, list := range [][]int{repeated(0, length), repeated(1, length)} {
			wantInts(t, "too many bits", impl.EncodeStream(list), nil)
			wantRefusedStream(t, list)
		}
	}
}

// Parts of codes, and codes of more bits, are not decoded as far as they go.
func TestPartsOfStreams(t *testing.T) {
	code := impl.EncodeStream(mixedBits(1, 40))
	for _, list := range [][]int{nil, {}, code[:1], code[:2], code[:3], code[82:], code[83:], code[:83], code[1:], code[1:6]} {
		wantRefusedStream(t, list)
	}
	for count := 41; count < 60; count++ {
		list := modelStream(mixedBits(count, count))
		wantRefusedStream(t, list)
		wantRefusedStream(t, append(list, 0))
		wantInts(t, "too many bits", impl.EncodeStream(mixedBits(count, count)), nil)
	}
}

func TestStreamsWithOtherNumbers(t *testing.T) {
	for _, number := range notBits() {
		for _, count := range []int{1, 2, 3, 8, 39, 40, 41} {
			for _, list := range someStreams(count) {
				for place := range list {
					wantInts(t, "EncodeStream", impl.EncodeStream(changed(list, place, number)), nil)
				}
			}
		}
		for _, count := range []int{0, 1, 2, 8, 39, 40} {
			for _, list := range someStreams(count) {
				code := modelStream(list)
				for place := range code {
					wantRefusedStream(t, changed(code, place, number))
					wantRefusedStream(t, changed(code, place, number)[:len(code)-1])
				}
			}
		}
	}
}

func TestStreamArgumentsAreNotWritten(t *testing.T) {
	check := func(list []int) {
		part, whole := guarded(list, 7)
		before := slices.Clone(whole)
		overwrite(impl.EncodeStream(part), 9)
		overwrite(impl.DecodeStream(part), 9)
		impl.StreamErrors(part)
		wantInts(t, "list", whole, before)
	}
	for length := range 90 {
		for _, list := range [][]int{repeated(0, length), repeated(1, length), mixedBits(length, length)} {
			check(list)
			if length > 0 {
				check(changed(list, length-1, 2))
				check(changed(list, 0, -1))
			}
		}
	}
	eachStream(func(list []int) {
		check(modelStream(list))
		check(inverted(modelStream(list), 1, 3))
	})
}

func TestStreamResultsAreNewMemory(t *testing.T) {
	eachStream(func(list []int) {
		data, wrong := slices.Clone(list), inverted(modelStream(list), 0, 3)
		coded, codedAgain := impl.EncodeStream(data), impl.EncodeStream(data)
		decoded, decodedAgain := impl.DecodeStream(wrong), impl.DecodeStream(wrong)
		for _, other := range [][]int{data, wrong, codedAgain, decodedAgain} {
			overwrite(other, 9)
		}
		wantInts(t, "EncodeStream", coded, modelStream(list))
		wantInts(t, "DecodeStream", decoded, list)
	})
}

// The trellis is the same after every call, also if results are written to.
func TestStreamCodeKeepsNoState(t *testing.T) {
	eachStream(func(list []int) {
		overwrite(impl.EncodeStream(list), 9)
		overwrite(impl.DecodeStream(mixedBits(len(list), 2*len(list)+4)), 9)
		impl.StreamErrors(repeated(1, 84))
		impl.DecodeStream(repeated(2, 84))
		wantInts(t, "EncodeStream", impl.EncodeStream(list), modelStream(list))
		wantDecodedStream(t, inverted(modelStream(list), 2), list, 1)
	})
}
