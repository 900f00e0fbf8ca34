package tests

import (
	"math"
	"slices"
	"testing"

	"loop.example/softwareradio/impl"
)

// codeRows are the codes, written out.
func codeRows() [][]int {
	return [][]int{
		{1, 1, 1, 1, 1, 1, 1, 1},
		{1, -1, 1, -1, 1, -1, 1, -1},
		{1, 1, -1, -1, 1, 1, -1, -1},
		{1, -1, -1, 1, 1, -1, -1, 1},
		{1, 1, 1, 1, -1, -1, -1, -1},
		{1, -1, 1, -1, -1, 1, -1, 1},
		{1, 1, -1, -1, -1, -1, 1, 1},
		{1, -1, -1, 1, -1, 1, 1, -1},
	}
}

// notCodes are numbers other than 0 to 7; some of them look like one if only their last digits or their absolute values are kept.
func notCodes() []int {
	return []int{
		-1, -2, -3, -4, -5, -6, -7, -8, -9, -15, -16, -64, -256, -257, 8, 9, 10, 11, 12, 13, 14, 15, 16, 17, 31, 32, 33, 64, 100, 255, 256, 257, 259, 1000, 65536, 65539,
		1 << 31, -1 << 31, 1 << 32, 1<<32 + 1, 1<<32 + 7, -1 << 32, -1<<32 + 3, 1 << 62, -1 << 62,
		math.MaxInt, math.MaxInt - 1, math.MaxInt - 7, math.MinInt, math.MinInt + 1, math.MinInt + 7,
	}
}

// notSums are beyond MaxValue*Chips; some of them look valid if only their last digits or their absolute values are kept, or if they are added or multiplied before they are checked.
func notSums() []int {
	return []int{
		8001, -8001, 8002, -8002, 8007, 8008, -8008, 8191, 8192, -8192, 9000, 16000, -16000, 64000, -64000, 64001, 65535, 65536, -65536, 65537, 73536,
		1 << 31, -1 << 31, 1 << 32, -1 << 32, 1<<32 + 1, 1<<32 + 8000, -1<<32 - 8000, 1 << 60, 1 << 61, -1 << 61, 1 << 62, -1 << 62, 1<<62 + 1,
		math.MaxInt, math.MaxInt - 1, math.MinInt, math.MinInt + 1, math.MinInt + 8000,
	}
}

// chipLengths are no numbers, those next to a code and to several ones, and those next to 256.
func chipLengths() []int {
	return []int{0, 1, 2, 7, 8, 9, 15, 16, 17, 24, 31, 32, 63, 64, 65, 100, 128, 200, 247, 248, 249, 254, 255, 256}
}

// longChips are lengths above 256; some of them look valid if only their last digits are kept.
func longChips() []int {
	return []int{257, 258, 260, 263, 264, 265, 272, 288, 320, 384, 511, 512, 513, 520, 1024, 1032, 2048, 4096, 65536, 65544, 65792}
}

// spreadLists are all lists of up to six bits, and equal, alternating and mixed ones of every number of bits that are spread at once.
func spreadLists() [][]int {
	lists := listsOf([]int{0, 1}, 6)
	for length := range 33 {
		alternating := make([]int, length)
		for place := range alternating {
			alternating[place] = place % 2
		}
		lists = append(lists, repeated(0, length), repeated(1, length), alternating)
		for seed := range 5 {
			lists = append(lists, mixedBits(seed+100*length, length))
		}
	}
	return lists
}

// sumLists are lists of numbers that are despread: the same number everywhere, one number among zeros at each place, codes, and mixed ones.
func sumLists() [][]int {
	var lists [][]int
	for length := 0; length <= 256; length += 8 {
		for _, number := range []int{0, 1, -1, 8000, -8000} {
			lists = append(lists, repeated(number, length))
		}
		for seed, level := range []int{1, 2, 8, 1000, 7999, 8000} {
			lists = append(lists, mixedNumbers(seed+length, length, level))
		}
	}
	for place := range 24 {
		for _, number := range []int{1, -1, 1000, 8000, -8000} {
			lists = append(lists, changed(repeated(0, 24), place, number))
		}
	}
	for _, code := range codeRows() {
		lists = append(lists, code, negated(code), times(code, 8000), times(code, -8000), slices.Concat(code, times(code, -3), code))
	}
	return lists
}

func times(list []int, factor int) []int {
	list = slices.Clone(list)
	for place := range list {
		list[place] *= factor
	}
	return list
}

func placeSums(a []int, b []int) []int {
	sums := slices.Clone(a)
	for place, number := range b {
		sums[place] += number
	}
	return sums
}

func productSum(a []int, b []int) int {
	sum := 0
	for place, number := range a {
		sum += number * b[place]
	}
	return sum
}

func modelChips(bits []int, k int) []int {
	var chips []int
	for _, bit := range bits {
		if bit == 1 {
			chips = append(chips, codeRows()[k]...)
		} else {
			chips = append(chips, negated(codeRows()[k])...)
		}
	}
	return chips
}

func modelSums(list []int, k int) []int {
	var sums []int
	for at := 0; at < len(list); at += 8 {
		sums = append(sums, productSum(list[at:at+8], codeRows()[k]))
	}
	return sums
}

// modelSigns are 1 for sums greater than 0.
func modelSigns(sums []int) []int {
	signs := make([]int, len(sums))
	for place, sum := range sums {
		if sum > 0 {
			signs[place] = 1
		}
	}
	return signs
}

// wantDespread checks the sums and the bits of a list for one code.
func wantDespread(t *testing.T, list []int, k int, sums []int) {
	t.Helper()
	wantInts(t, "DespreadSums", impl.DespreadSums(list, k), sums)
	wantInts(t, "DespreadBits", impl.DespreadBits(list, k), modelSigns(sums))
}

func wantNotDespread(t *testing.T, list []int, k int) {
	t.Helper()
	if sums := impl.DespreadSums(list, k); len(sums) != 0 {
		t.Fatalf("%d numbers have the sums %v with code %d", len(list), sums, k)
	}
	if bits := impl.DespreadBits(list, k); len(bits) != 0 {
		t.Fatalf("%d numbers have the bits %v with code %d", len(list), bits, k)
	}
}

func wantNotSpread(t *testing.T, bits []int, k int) {
	t.Helper()
	if chips := impl.SpreadBits(bits, k); len(chips) != 0 {
		t.Fatalf("%v is spread with code %d: %v", bits, k, chips)
	}
}

// wantNotAdded checks that two lists are refused in either order.
func wantNotAdded(t *testing.T, a []int, b []int) {
	t.Helper()
	if sums := impl.AddChips(a, b); len(sums) != 0 {
		t.Fatalf("%v and %v have the sums %v", a, b, sums)
	}
	if sums := impl.AddChips(b, a); len(sums) != 0 {
		t.Fatalf("%v and %v have the sums %v", b, a, sums)
	}
}

func TestBoundsOfSpreading(t *testing.T) {
	if impl.Chips != 8 || impl.MaxValue != 1000 {
		t.Fatal(impl.Chips, impl.MaxValue)
	}
}

func TestCodes(t *testing.T) {
	for k, code := range codeRows() {
		wantInts(t, "WalshCode", impl.WalshCode(k), code)
	}
	for _, k := range notCodes() {
		wantInts(t, "WalshCode of another number", impl.WalshCode(k), nil)
	}
	for k := 8; k < 3000; k++ {
		wantInts(t, "WalshCode of a large number", impl.WalshCode(k), nil)
		wantInts(t, "WalshCode of a negative number", impl.WalshCode(7-k), nil)
	}
}

// Promise 70.
func TestCodesAreOrthogonal(t *testing.T) {
	for k := range impl.Chips {
		for other := range impl.Chips {
			want := 0
			if k == other {
				want = impl.Chips
			}
			if sum := productSum(impl.WalshCode(k), impl.WalshCode(other)); sum != want {
				t.Fatalf("the codes %d and %d have the sum %d", k, other, sum)
			}
		}
	}
}

// Promise 139.
func TestProductsOfCodesAreCodes(t *testing.T) {
	for k := range impl.Chips {
		code := impl.WalshCode(k)
		for other := range impl.Chips {
			if code[other] != impl.WalshCode(other)[k] {
				t.Fatalf("chip %d of code %d is not chip %d of code %d", other, k, k, other)
			}
			product := impl.WalshCode(other)
			for place := range product {
				product[place] *= code[place]
			}
			wantInts(t, "the product", product, impl.WalshCode(k^other))
		}
	}
}

func TestSpreadExamples(t *testing.T) {
	chips := impl.SpreadBits([]int{1, 0}, 0)
	wantInts(t, "code 0", chips, append(repeated(1, 8), repeated(-1, 8)...))
	wantDespread(t, chips, 0, []int{8, -8})
	wantDespread(t, chips, 3, []int{0, 0})
	wantInts(t, "code 3", impl.SpreadBits([]int{0, 1}, 3), []int{-1, 1, 1, -1, -1, 1, 1, -1, 1, -1, -1, 1, 1, -1, -1, 1})
	sums := impl.AddChips(chips, impl.SpreadBits([]int{1, 1}, 3))
	wantInts(t, "two senders", sums, []int{2, 0, 0, 2, 2, 0, 0, 2, 0, -2, -2, 0, 0, -2, -2, 0})
	wantDespread(t, sums, 0, []int{8, -8})
	wantDespread(t, sums, 3, []int{8, 8})
	wantDespread(t, sums, 5, []int{0, 0})
	wantDespread(t, []int{1, 2, 3, 4, 5, 6, 7, 8}, 0, []int{36})
	wantDespread(t, []int{1, 2, 3, 4, 5, 6, 7, 8}, 1, []int{-4})
	wantDespread(t, []int{1, 2, 3, 4, 5, 6, 7, 8}, 2, []int{-8})
	wantDespread(t, []int{1, 2, 3, 4, 5, 6, 7, 8}, 4, []int{-16})
	wantDespread(t, []int{1, 2, 3, 4, 5, 6, 7, 8}, 7, []int{0})
}

// Promise 12, for one sender: its own code returns the bits, and every other one has only the sums 0.
func TestSpreadBitsAreDespread(t *testing.T) {
	for _, bits := range spreadLists() {
		for k := range impl.Chips {
			chips := impl.SpreadBits(bits, k)
			wantInts(t, "SpreadBits", chips, modelChips(bits, k))
			wantInts(t, "the bits", impl.DespreadBits(chips, k), bits)
			for other := range impl.Chips {
				if other != k {
					wantInts(t, "the sums with another code", impl.DespreadSums(chips, other), repeated(0, len(bits)))
					wantInts(t, "the bits with another code", impl.DespreadBits(chips, other), repeated(0, len(bits)))
				}
			}
		}
	}
}

// wantTwoSenders checks promise 12 for the sum of two senders with different codes.
func wantTwoSenders(t *testing.T, a []int, k int, b []int, other int) {
	t.Helper()
	sums := impl.AddChips(impl.SpreadBits(a, k), impl.SpreadBits(b, other))
	wantInts(t, "AddChips", sums, placeSums(modelChips(a, k), modelChips(b, other)))
	wantInts(t, "the first sender", impl.DespreadBits(sums, k), a)
	wantInts(t, "the second sender", impl.DespreadBits(sums, other), b)
	for third := range impl.Chips {
		if third != k && third != other {
			wantInts(t, "a code without sender", impl.DespreadSums(sums, third), repeated(0, len(a)))
		}
	}
}

// eachPairOfCodes calls a test with all pairs of different codes.
func eachPairOfCodes(test func(k int, other int)) {
	for k := range 8 {
		for other := range 8 {
			if k != other {
				test(k, other)
			}
		}
	}
}

// Promise 12, with all pairs of lists of up to three bits, and with lists of every length.
func TestTwoSendersDoNotDisturbEachOther(t *testing.T) {
	lists := listsOf([]int{0, 1}, 3)
	eachPairOfCodes(func(k int, other int) {
		for _, a := range lists {
			for _, b := range lists {
				if len(a) == len(b) {
					wantTwoSenders(t, a, k, b, other)
				}
			}
		}
		for length := range 33 {
			a, b := mixedBits(length+100*k, length), mixedBits(-length-100*other-1, length)
			wantTwoSenders(t, a, k, b, other)
			wantTwoSenders(t, a, k, a, other)
			wantTwoSenders(t, a, k, inverted(a, places(length)...), other)
			wantTwoSenders(t, repeated(1, length), k, repeated(0, length), other)
			wantTwoSenders(t, repeated(1, length), k, repeated(1, length), other)
		}
	})
}

// places are all places of a list.
func places(length int) []int {
	var list []int
	for place := range length {
		list = append(list, place)
	}
	return list
}

// Two senders with the same code add up: where their bits differ the sums are 0, and the bits 0.
func TestTwoSendersWithTheSameCode(t *testing.T) {
	for _, a := range listsOf([]int{0, 1}, 4) {
		for _, b := range listsOf([]int{0, 1}, 4) {
			for k := 0; k < impl.Chips && len(a) == len(b); k++ {
				sums, bits := make([]int, len(a)), make([]int, len(a))
				for place := range a {
					sums[place], bits[place] = 16*(a[place]+b[place]-1), a[place]*b[place]
				}
				chips := impl.AddChips(impl.SpreadBits(a, k), impl.SpreadBits(b, k))
				wantInts(t, "the sums", impl.DespreadSums(chips, k), sums)
				wantInts(t, "the bits", impl.DespreadBits(chips, k), bits)
			}
		}
	}
}

// Promise 12, with every set of codes: each sender has its own code, and the codes without sender have the sums 0.
func TestManySendersDoNotDisturbEachOther(t *testing.T) {
	for senders := range 256 {
		for _, length := range []int{0, 1, 2, 5, 31, 32} {
			sums := repeated(0, 8*length)
			for k := range 8 {
				if senders>>k&1 == 1 {
					sums = impl.AddChips(sums, impl.SpreadBits(mixedBits(senders+1000*k, length), k))
				}
			}
			for k := range 8 {
				if senders>>k&1 == 1 {
					wantInts(t, "a sender", impl.DespreadBits(sums, k), mixedBits(senders+1000*k, length))
				} else {
					wantInts(t, "a code without sender", impl.DespreadSums(sums, k), repeated(0, length))
				}
			}
		}
	}
}

// Promise 12, with a second sender that is much louder, up to the greatest chips that can be added.
func TestLoudSendersDoNotDisturbOthers(t *testing.T) {
	eachPairOfCodes(func(k int, other int) {
		for length := range 33 {
			for _, level := range []int{2, 100, 999, 1000, -1000} {
				a, b := mixedBits(length+k, length), mixedBits(-length-other-1, length)
				sums := impl.AddChips(impl.SpreadBits(a, k), times(impl.SpreadBits(b, other), level))
				wantInts(t, "the quiet sender", impl.DespreadBits(sums, k), a)
				wantInts(t, "the sums of the loud sender", impl.DespreadSums(sums, other), times(modelSums(modelChips(b, other), other), level))
			}
		}
	})
}

func TestSpreadBitsAreJoined(t *testing.T) {
	for length := range 33 {
		for cut := range length + 1 {
			for k := range impl.Chips {
				bits := mixedBits(length+cut, length)
				wantInts(t, "both parts", slices.Concat(impl.SpreadBits(bits[:cut], k), impl.SpreadBits(bits[cut:], k)), impl.SpreadBits(bits, k))
			}
		}
	}
}

// Promise 71, with all pairs of lists of up to two numbers, and with longer ones up to 256.
func TestChipsAdd(t *testing.T) {
	check := func(a []int, b []int) {
		sums := impl.AddChips(a, b)
		wantInts(t, "AddChips", sums, placeSums(a, b))
		wantInts(t, "the other order", impl.AddChips(b, a), sums)
		wantInts(t, "zeros behind", impl.AddChips(a, repeated(0, len(a))), a)
		wantInts(t, "zeros before", impl.AddChips(repeated(0, len(b)), b), b)
	}
	lists := listsOf([]int{-1000, -999, -2, -1, 0, 1, 2, 999, 1000}, 2)
	for _, a := range lists {
		for _, b := range lists {
			if len(a) == len(b) {
				check(a, b)
			}
		}
	}
	for length := range 257 {
		for seed, level := range []int{1, 8, 999, 1000} {
			check(mixedNumbers(seed+length, length, level), mixedNumbers(-seed-length-1, length, 1000))
		}
		check(repeated(1000, length), repeated(1000, length))
		check(repeated(-1000, length), repeated(-1000, length))
		check(repeated(1000, length), repeated(-1000, length))
	}
	check(nil, []int{})
}

// Every number in the range is added, at every place.
func TestAllNumbersAreAdded(t *testing.T) {
	for number := -1000; number <= 1000; number++ {
		for place := range 8 {
			a, b := changed(repeated(0, 8), place, number), repeated(1000, 8)
			wantInts(t, "AddChips", impl.AddChips(a, b), changed(b, place, 1000+number))
			wantInts(t, "the other order", impl.AddChips(b, a), changed(b, place, 1000+number))
		}
	}
}

func TestDespreadSums(t *testing.T) {
	for _, list := range sumLists() {
		for k := range impl.Chips {
			wantDespread(t, list, k, modelSums(list, k))
		}
	}
	for number := -8000; number <= 8000; number++ {
		for k, code := range codeRows() {
			place := (number + 8000) % 8
			wantDespread(t, changed(repeated(0, 8), place, number), k, []int{number * code[place]})
		}
	}
}

// Promise 72: the sums of two lists add up.
func TestSumsOfSumsAreSums(t *testing.T) {
	for length := 0; length <= 256; length += 8 {
		for seed, level := range []int{1, 10, 999, 1000} {
			a, b := mixedNumbers(seed+length, length, level), mixedNumbers(-seed-length-1, length, 1000)
			for k := range impl.Chips {
				sums := impl.DespreadSums(impl.AddChips(a, b), k)
				wantInts(t, "the sums of the sum", sums, placeSums(impl.DespreadSums(a, k), impl.DespreadSums(b, k)))
				wantInts(t, "the sums of a multiple", impl.DespreadSums(times(a, 8), k), times(impl.DespreadSums(a, k), 8))
			}
		}
	}
}

// Promise 72: the squares, for every eight numbers and for whole lists.
func TestSquaresOfSumsAddUp(t *testing.T) {
	for _, list := range sumLists() {
		total := 0
		squares := make([]int, len(list)/8)
		for k := range impl.Chips {
			sums := impl.DespreadSums(list, k)
			total += productSum(sums, sums)
			for place, sum := range sums {
				squares[place] += sum * sum
			}
		}
		if want := impl.Chips * productSum(list, list); total != want {
			t.Fatalf("the sums of %v have the squares %d, want %d", list, total, want)
		}
		for place, square := range squares {
			chips := list[8*place : 8*place+8]
			if want := impl.Chips * productSum(chips, chips); square != want {
				t.Fatalf("the sums of %v have the squares %d, want %d", chips, square, want)
			}
		}
	}
}

// Promise 73.
func TestBitsAreSignsOfSums(t *testing.T) {
	check := func(list []int) {
		t.Helper()
		for k := range impl.Chips {
			sums, bits, opposite := impl.DespreadSums(list, k), impl.DespreadBits(list, k), impl.DespreadBits(negated(list), k)
			if len(bits) != len(sums) || len(opposite) != len(sums) {
				t.Fatalf("%v has the sums %v, the bits %v and the opposite bits %v", list, sums, bits, opposite)
			}
			for place, sum := range sums {
				if bits[place] != modelSigns(sums)[place] || sum != 0 && opposite[place] != 1-bits[place] || sum == 0 && opposite[place] != 0 {
					t.Fatalf("%v has the sums %v, the bits %v and the opposite bits %v", list, sums, bits, opposite)
				}
			}
		}
	}
	for _, list := range sumLists() {
		check(list)
	}
	for _, list := range listsOf([]int{-1, 0, 1}, 8) {
		if len(list) == 8 {
			check(list)
		}
	}
}

// Sums next to 0 are told from 0, also if the chips are not 0 themselves.
func TestBitsOfSmallSums(t *testing.T) {
	for k, code := range codeRows() {
		for level := 0; level <= 7999; level += 31 {
			for place := range 8 {
				silent := times(codeRows()[(k+1+place%7)%8], level)
				wantDespread(t, silent, k, []int{0})
				wantDespread(t, changed(silent, place, silent[place]+code[place]), k, []int{1})
				wantDespread(t, changed(silent, place, silent[place]-code[place]), k, []int{-1})
			}
		}
	}
}

func TestSpreadingWithOtherCodes(t *testing.T) {
	for _, k := range notCodes() {
		for length := range 33 {
			wantNotSpread(t, repeated(0, length), k)
			wantNotSpread(t, mixedBits(length, length), k)
			wantNotDespread(t, repeated(0, 8*length), k)
			wantNotDespread(t, mixedNumbers(length, 8*length, 8000), k)
			wantNotDespread(t, modelChips(mixedBits(length, length), length%8), k)
		}
		wantNotSpread(t, []int{2}, k)
		wantNotDespread(t, repeated(8001, 8), k)
	}
}

func TestSpreadingOtherNumbersOfBits(t *testing.T) {
	for _, length := range []int{33, 34, 35, 39, 40, 41, 63, 64, 65, 100, 128, 255, 256, 257, 264, 288, 1023, 1024, 1025, 4096, 65536, 65544} {
		for k := range impl.Chips {
			wantNotSpread(t, repeated(0, length), k)
			wantNotSpread(t, repeated(1, length), k)
			wantNotSpread(t, mixedBits(length, length), k)
		}
	}
}

func TestSpreadingOtherBits(t *testing.T) {
	for _, bit := range notBits() {
		for length := 1; length <= 33; length++ {
			for place := range length {
				for k := range impl.Chips {
					wantNotSpread(t, changed(mixedBits(length, length), place, bit), k)
				}
			}
		}
		wantNotSpread(t, []int{bit, -bit}, 0)
		wantNotSpread(t, repeated(bit, 32), 7)
	}
}

func TestAddingOtherLengths(t *testing.T) {
	for _, length := range longChips() {
		wantNotAdded(t, repeated(0, length), repeated(0, length))
		wantNotAdded(t, mixedNumbers(length, length, 1000), mixedNumbers(-length, length, 1))
		wantNotAdded(t, repeated(0, length), repeated(0, 256))
		wantNotAdded(t, repeated(0, length), nil)
	}
	for length := range 258 {
		for _, other := range append(chipLengths(), length-1, length+1, length-8, length+8, length+256, 2*length, 257, 264, 512) {
			if other >= 0 && other != length {
				wantNotAdded(t, repeated(0, length), repeated(0, other))
				wantNotAdded(t, mixedNumbers(length, length, 1000), mixedNumbers(other, other, 1000))
			}
		}
	}
}

// wantNotAddedTo checks that a list is refused with lists of the same length, itself included.
func wantNotAddedTo(t *testing.T, list []int) {
	t.Helper()
	for _, other := range [][]int{repeated(0, len(list)), negated(list), list, mixedNumbers(len(list), len(list), 1000)} {
		wantNotAdded(t, list, other)
	}
}

func TestAddingOtherNumbers(t *testing.T) {
	for _, number := range notValues() {
		for _, length := range chipLengths() {
			for place := range length {
				wantNotAddedTo(t, changed(repeated(0, length), place, number))
			}
			if length > 0 {
				wantNotAddedTo(t, changed(repeated(1000, length), length-1, number))
				wantNotAddedTo(t, changed(mixedNumbers(length, length, 1000), length/2, number))
				wantNotAddedTo(t, repeated(number, length))
			}
		}
	}
	for number := 1001; number < 9000; number++ {
		wantNotAddedTo(t, changed(repeated(0, 8), number%8, number))
		wantNotAddedTo(t, changed(repeated(0, 8), number%8, -number))
	}
}

func TestDespreadingOtherLengths(t *testing.T) {
	lengths := longChips()
	for length := range 300 {
		if length%8 != 0 || length > 256 {
			lengths = append(lengths, length)
		}
	}
	for _, length := range lengths {
		for k := range impl.Chips {
			wantNotDespread(t, repeated(0, length), k)
			wantNotDespread(t, repeated(1, length), k)
			wantNotDespread(t, mixedNumbers(length, length, 8000), k)
		}
	}
}

func TestDespreadingOtherNumbers(t *testing.T) {
	for _, number := range notSums() {
		for _, length := range []int{8, 16, 64, 248, 256} {
			for place := range length {
				wantNotDespread(t, changed(repeated(0, length), place, number), place%8)
				wantNotDespread(t, changed(mixedNumbers(length, length, 8000), place, number), number&7)
			}
		}
		for k := range impl.Chips {
			for place := range 24 {
				wantNotDespread(t, changed(repeated(8000, 24), place, number), k)
				wantNotDespread(t, changed(modelChips([]int{1, 0, 1}, k), place, number), k)
			}
			wantNotDespread(t, repeated(number, 256), k)
			wantNotDespread(t, changed(changed(repeated(0, 16), k, number), k+8, -number), k)
		}
	}
	for number := 8001; number < 20000; number++ {
		wantNotDespread(t, changed(repeated(0, 8), number%8, number), number/8%8)
		wantNotDespread(t, changed(repeated(0, 8), number%8, -number), number/8%8)
	}
}

func TestSpreadingOfNothing(t *testing.T) {
	for k := range impl.Chips {
		for _, nothing := range [][]int{nil, {}} {
			wantInts(t, "SpreadBits", impl.SpreadBits(nothing, k), nil)
			wantDespread(t, nothing, k, nil)
		}
	}
	wantInts(t, "AddChips", impl.AddChips(nil, nil), nil)
}

func TestSpreadingArgumentsAreNotWritten(t *testing.T) {
	check := func(a []int, b []int) {
		first, wholeFirst := guarded(a, 7)
		second, wholeSecond := guarded(b, -7)
		beforeFirst, beforeSecond := slices.Clone(wholeFirst), slices.Clone(wholeSecond)
		overwrite(impl.AddChips(first, second), 9)
		overwrite(impl.AddChips(first, first), 9)
		for k := -1; k <= impl.Chips; k++ {
			overwrite(impl.SpreadBits(first, k), 9)
			overwrite(impl.DespreadSums(first, k), 9)
			overwrite(impl.DespreadBits(first, k), 9)
		}
		wantInts(t, "first", wholeFirst, beforeFirst)
		wantInts(t, "second", wholeSecond, beforeSecond)
	}
	for _, list := range slices.Concat(spreadLists(), sumLists()) {
		for _, other := range [][]int{nil, list, repeated(0, len(list)), repeated(1000, len(list)), repeated(8001, len(list)), append(slices.Clone(list), 5)} {
			check(list, other)
			check(other, list)
		}
	}
}

// Adding zeros and adding to zeros leave the numbers as they are; the results are new memory nevertheless.
func TestSpreadingResultsAreNewMemory(t *testing.T) {
	for _, length := range []int{1, 2, 3, 31, 32} {
		bits := mixedBits(length, length)
		for k := range impl.Chips {
			code, codeAgain := impl.WalshCode(k), impl.WalshCode(k)
			first := slices.Clone(bits)
			chips, chipsAgain := impl.SpreadBits(first, k), impl.SpreadBits(first, k)
			second, zeros := slices.Clone(chips), repeated(0, 8*length)
			sums, sumsAgain := impl.AddChips(second, zeros), impl.AddChips(zeros, second)
			despread, despreadAgain := impl.DespreadSums(second, k), impl.DespreadSums(second, k)
			decided, decidedAgain := impl.DespreadBits(second, k), impl.DespreadBits(second, k)
			for _, other := range [][]int{first, second, zeros, codeAgain, chipsAgain, sumsAgain, despreadAgain, decidedAgain} {
				overwrite(other, 9)
			}
			wantInts(t, "WalshCode", code, codeRows()[k])
			wantInts(t, "SpreadBits", chips, modelChips(bits, k))
			wantInts(t, "AddChips", sums, modelChips(bits, k))
			wantInts(t, "DespreadSums", despread, modelSums(modelChips(bits, k), k))
			wantInts(t, "DespreadBits", decided, bits)
			for _, other := range [][]int{code, chips, sums, despread} {
				overwrite(other, 9)
			}
			wantInts(t, "DespreadBits", decided, bits)
		}
	}
}

// The results are the same after every call, also if results are written to.
func TestSpreadingKeepsNoState(t *testing.T) {
	for _, bits := range spreadLists() {
		for k := range impl.Chips {
			chips := modelChips(bits, k)
			for _, other := range [][]int{repeated(1, 32), repeated(2, 8), nil, repeated(8000, 256), repeated(8001, 8)} {
				overwrite(impl.WalshCode(k), 9)
				overwrite(impl.SpreadBits(other, k), 9)
				overwrite(impl.AddChips(other, other), 9)
				overwrite(impl.DespreadSums(other, k), 9)
				overwrite(impl.DespreadBits(other, k), 9)
			}
			wantInts(t, "WalshCode", impl.WalshCode(k), codeRows()[k])
			wantInts(t, "SpreadBits", impl.SpreadBits(bits, k), chips)
			wantInts(t, "AddChips", impl.AddChips(chips, chips), times(chips, 2))
			wantDespread(t, chips, k, modelSums(chips, k))
		}
	}
}
