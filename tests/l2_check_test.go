package tests

import (
	"math"
	"slices"
	"testing"

	"loop.example/softwareradio/impl"
)

func TestMaxDegree(t *testing.T) {
	if impl.MaxDegree != 16 {
		t.Fatal(impl.MaxDegree)
	}
}

// generators are valid generator polynomials: the smallest and the greatest one of every degree, some in common use and some between.
func generators() []int {
	list := []int{11, 13, 19, 25, 37, 0x89, 0x107, 0x633, 0x180F, 0xC599, 69665}
	for degree := 1; degree <= 16; degree++ {
		list = append(list, 1<<degree+1, 2<<degree-1, 1<<degree|int(mixed(1, degree))&(1<<degree-1)|1)
	}
	return list
}

// notGenerators are even numbers, 0, 1, negative numbers and numbers of a greater degree; some of them look valid if only their last digits are kept.
func notGenerators() []int {
	return []int{
		0, 1, 2, 4, 12, 18, 20, 1 << 15, 1 << 16, 1<<16 + 2, 1<<17 - 2,
		-1, -2, -3, -11, -19, -69665, math.MinInt, math.MinInt + 1, math.MinInt + 19,
		1 << 17, 1<<17 + 1, 1<<17 + 19, 1<<18 - 1, 1<<32 + 19, 1<<62 + 1, math.MaxInt, math.MaxInt - 1,
	}
}

// degree finds the degree of a valid generator polynomial without the program.
func degree(g int) int {
	d := 0
	for g>>d > 1 {
		d++
	}
	return d
}

// dividedBits returns the check bits as the long division on paper does.
func dividedBits(list []int, g int) []int {
	d := degree(g)
	rest := append(slices.Clone(list), repeated(0, d)...)
	for k := range list {
		if rest[k] == 1 {
			for j := range d + 1 {
				rest[k+j] ^= g >> (d - j) & 1
			}
		}
	}
	return rest[len(list):]
}

func digits(number int, count int) []int {
	list := make([]int, count)
	for k := range list {
		list[k] = number >> (count - 1 - k) & 1
	}
	return list
}

// checkLengths are lengths shorter and longer than every check, and those next to MaxBits.
func checkLengths() []int {
	return []int{0, 1, 2, 3, 4, 5, 7, 8, 9, 14, 15, 16, 17, 18, 31, 33, 63, 64, 65, 129, 500, 1006, 1007, 1008}
}

// withCheck returns a list of the given length with its check bits, which is one that passes.
func withCheck(t *testing.T, seed int, length int, g int) []int {
	t.Helper()
	list := impl.CheckAppend(mixedBits(seed, length), g)
	if len(list) != length+degree(g) {
		t.Fatalf("%d bits with their check for %d are %d bits", length, g, len(list))
	}
	return list
}

// Promise 32.
func TestGeneratorsHaveConstantTerm(t *testing.T) {
	for g := -70000; g < 1<<18; g++ {
		want := g >= 3 && g < 1<<17 && g%2 == 1
		if impl.GeneratorValid(g) != want {
			t.Fatalf("%d is valid: %v", g, !want)
		}
		if want && impl.GeneratorValid(g+1) {
			t.Fatalf("one more than %d is valid", g)
		}
	}
	for _, g := range generators() {
		if !impl.GeneratorValid(g) {
			t.Fatalf("%d is invalid", g)
		}
	}
	for _, g := range notGenerators() {
		if impl.GeneratorValid(g) {
			t.Fatalf("%d is valid", g)
		}
	}
}

// Promise 33.
func TestDegreesAreLogarithms(t *testing.T) {
	for g := -70000; g < 1<<18; g++ {
		d := impl.DegreeOf(g)
		if !impl.GeneratorValid(g) {
			if d != -1 {
				t.Fatalf("%d has the degree %d", g, d)
			}
			continue
		}
		if d < 1 || d > 16 || g < 1<<d || g >= 2<<d {
			t.Fatalf("%d has the degree %d", g, d)
		}
	}
	for _, g := range notGenerators() {
		if d := impl.DegreeOf(g); d != -1 {
			t.Fatalf("%d has the degree %d", g, d)
		}
	}
	for g, want := range map[int]int{3: 1, 5: 2, 7: 2, 19: 4, 69665: 16, 1<<16 + 1: 16, 1<<17 - 1: 16} {
		if impl.DegreeOf(g) != want {
			t.Fatalf("%d has the degree %d", g, impl.DegreeOf(g))
		}
	}
}

func TestCheckBitsExamples(t *testing.T) {
	wantInts(t, "1011 for 11", impl.CheckBits([]int{1, 0, 1, 1}, 11), []int{0, 0, 0})
	wantInts(t, "1 for 19", impl.CheckBits([]int{1}, 19), []int{0, 0, 1, 1})
	wantInts(t, "parity of 10110", impl.CheckBits([]int{1, 0, 1, 1, 0}, 3), []int{1})
	wantInts(t, "nothing for 19", impl.CheckBits(nil, 19), []int{0, 0, 0, 0})
	wantInts(t, "nothing for 3", impl.CheckBits([]int{}, 3), []int{0})
}

// The check values that are published for the text 123456789.
func TestCheckBitsOfPublishedCodes(t *testing.T) {
	text := impl.BitsOfBytes([]byte("123456789"))
	for g, want := range map[int]int{0x89: 0x75, 0x107: 0xF4, 0x633: 0x199, 0x180F: 0xF5B, 0xC599: 0x59E, 69665: 0x31C3} {
		wantInts(t, "123456789", impl.CheckBits(text, g), digits(want, degree(g)))
	}
}

// Every list of at most nine bits, with every generator polynomial of at most degree five.
func TestCheckBitsOfShortLists(t *testing.T) {
	for length := range 10 {
		for number := range 1 << length {
			list := digits(number, length)
			for g := 3; g < 64; g += 2 {
				wantInts(t, "short list", impl.CheckBits(list, g), dividedBits(list, g))
			}
		}
	}
}

func TestCheckBitsAreRemainders(t *testing.T) {
	for _, g := range generators() {
		for length := range 70 {
			list := mixedBits(length, length)
			wantInts(t, "list", impl.CheckBits(list, g), dividedBits(list, g))
		}
		for _, length := range bitLengths() {
			for _, list := range [][]int{mixedBits(length, length), repeated(1, length)} {
				wantInts(t, "long list", impl.CheckBits(list, g), dividedBits(list, g))
			}
		}
	}
}

// A list with a single 1 at every place reaches every power that is divided.
func TestCheckBitsOfSinglePowers(t *testing.T) {
	for _, g := range []int{3, 19, 0x107, 69665, 1<<17 - 1} {
		for place := range impl.MaxBits {
			list := changed(repeated(0, impl.MaxBits), place, 1)
			wantInts(t, "single power", impl.CheckBits(list, g), dividedBits(list[place:], g))
		}
	}
}

// Promise 34.
func TestChecksAreLinear(t *testing.T) {
	for _, g := range generators() {
		for _, length := range bitLengths() {
			a := mixedBits(2*length, length)
			b := mixedBits(2*length+1, length)
			checkA, checkB := impl.CheckBits(a, g), impl.CheckBits(b, g)
			if len(checkA) != degree(g) || !impl.BitsValid(checkA) {
				t.Fatalf("%d bits have the check %v for %d", length, checkA, g)
			}
			wantInts(t, "check of the sum", impl.CheckBits(impl.AddBits(a, b), g), impl.AddBits(checkA, checkB))
			wantInts(t, "check of zeros", impl.CheckBits(repeated(0, length), g), repeated(0, degree(g)))
		}
	}
}

// Promise 1.
func TestAppendedChecksPass(t *testing.T) {
	for _, g := range generators() {
		for _, length := range checkLengths() {
			list := mixedBits(length, length)
			whole := impl.CheckAppend(list, g)
			wantInts(t, "list with check", whole, slices.Concat(list, dividedBits(list, g)))
			if !impl.CheckPasses(whole, g) {
				t.Fatalf("%d bits with their check do not pass for %d", length, g)
			}
			for place := 0; place < len(whole); place += 1 + len(whole)/100 {
				if impl.CheckPasses(changed(whole, place, 1-whole[place]), g) {
					t.Fatalf("%d bits pass for %d with bit %d changed", length, g, place)
				}
			}
		}
	}
	wantInts(t, "1 with check", impl.CheckAppend([]int{1}, 19), []int{1, 0, 0, 1, 1})
	wantInts(t, "nothing with check", impl.CheckAppend(nil, 19), []int{0, 0, 0, 0})
}

func TestEveryChangedBitIsDetected(t *testing.T) {
	for _, g := range []int{3, 5, 19, 69665, 1<<16 + 1} {
		whole := withCheck(t, 1, impl.MaxBits-degree(g), g)
		for place := range whole {
			if impl.CheckPasses(changed(whole, place, 1-whole[place]), g) {
				t.Fatalf("the change of bit %d is not detected with %d", place, g)
			}
		}
	}
}

func TestCheckAppendBoundsLength(t *testing.T) {
	for _, g := range generators() {
		most := impl.MaxBits - degree(g)
		for _, value := range []int{0, 1} {
			whole := impl.CheckAppend(repeated(value, most), g)
			if len(whole) != impl.MaxBits || !impl.CheckPasses(whole, g) {
				t.Fatalf("%d numbers %d with their check for %d are %d bits", most, value, g, len(whole))
			}
			for length := most + 1; length <= impl.MaxBits+1; length++ {
				if whole := impl.CheckAppend(repeated(value, length), g); len(whole) != 0 {
					t.Fatalf("%d numbers %d with their check for %d are %d bits", length, value, g, len(whole))
				}
			}
		}
		if len(impl.CheckBits(repeated(1, impl.MaxBits), g)) != degree(g) {
			t.Fatalf("MaxBits bits have no check for %d", g)
		}
	}
}

// Promise 35.
func TestPassingListsEndWithCheck(t *testing.T) {
	for length := range 10 {
		for number := range 1 << length {
			list := digits(number, length)
			for g := 3; g < 64; g += 2 {
				cut := length - degree(g)
				want := cut >= 0 && slices.Equal(list[cut:], dividedBits(list[:cut], g))
				if impl.CheckPasses(list, g) != want {
					t.Fatalf("%v passes for %d: %v", list, g, !want)
				}
			}
		}
	}
	for _, g := range generators() {
		for _, length := range bitLengths() {
			if impl.CheckPasses(repeated(0, length), g) != (length >= degree(g)) {
				t.Fatalf("%d zeros pass for %d: %v", length, g, length < degree(g))
			}
		}
	}
}

func TestListsShorterThanCheck(t *testing.T) {
	for _, g := range generators() {
		for length := range degree(g) {
			for _, list := range [][]int{repeated(0, length), repeated(1, length), mixedBits(g, length)} {
				if impl.CheckPasses(list, g) {
					t.Fatalf("%v passes for %d", list, g)
				}
				if impl.BurstDetected(list, g, 0, nil) || impl.BurstDetected(list, g, 0, repeated(1, length)) {
					t.Fatalf("a burst in %v is detected with %d", list, g)
				}
				wantInts(t, "check of a short list", impl.CheckBits(list, g), dividedBits(list, g))
				wantInts(t, "short list with check", impl.CheckAppend(list, g), slices.Concat(list, dividedBits(list, g)))
			}
		}
		check := repeated(0, degree(g))
		if !impl.CheckPasses(check, g) || impl.CheckPasses(changed(check, degree(g)-1, 1), g) {
			t.Fatalf("a list of check bits alone for %d", g)
		}
	}
	if impl.CheckPasses(nil, 3) || impl.CheckPasses([]int{}, 3) || impl.CheckPasses(nil, 19) {
		t.Fatal("no bits pass")
	}
}

// Promise 123.
func TestMultiplesPass(t *testing.T) {
	for _, g := range generators() {
		for _, length := range checkLengths() {
			list := withCheck(t, length, length, g)
			before := append([]int{0}, list...)
			behind := append(slices.Clone(list), 0)
			for len(behind) <= impl.MaxBits && len(behind) < len(list)+20 {
				if !impl.CheckPasses(before, g) || !impl.CheckPasses(behind, g) {
					t.Fatalf("%d bits with zeros do not pass for %d", length, g)
				}
				before = append([]int{0}, before...)
				behind = append(behind, 0)
			}
		}
		longest := withCheck(t, 1, impl.MaxBits-degree(g), g)
		if impl.CheckPasses(append([]int{0}, longest...), g) || impl.CheckPasses(append(slices.Clone(longest), 0), g) {
			t.Fatalf("more than MaxBits bits pass for %d", g)
		}
		if impl.CheckPasses(repeated(0, impl.MaxBits+1), g) {
			t.Fatalf("more than MaxBits zeros pass for %d", g)
		}
	}
}

// Promises 35 and 124.
func TestSumsPass(t *testing.T) {
	for _, g := range generators() {
		for _, length := range append(checkLengths(), impl.MaxBits-degree(g)) {
			a := withCheck(t, 2*length, length, g)
			b := withCheck(t, 2*length+1, length, g)
			if !impl.CheckPasses(impl.AddBits(a, b), g) || !impl.CheckPasses(impl.AddBits(a, a), g) {
				t.Fatalf("the sum of %d bits with checks does not pass for %d", length, g)
			}
			wrong := changed(b, len(b)-1, 1-b[len(b)-1])
			if impl.CheckPasses(impl.AddBits(a, wrong), g) {
				t.Fatalf("the sum of %d bits with a wrong check passes for %d", length, g)
			}
		}
	}
}

// Promise 2.
func TestShortBurstsAreDetected(t *testing.T) {
	for _, g := range generators() {
		list := withCheck(t, g, 40, g)
		for length := range degree(g) + 1 {
			bursts := [][]int{repeated(1, length), mixedBits(length, length)}
			for place := range length {
				bursts = append(bursts, changed(repeated(0, length), place, 1))
			}
			for at := 0; at+length <= len(list); at++ {
				for _, burst := range bursts {
					if impl.BurstDetected(list, g, at, burst) != slices.Contains(burst, 1) {
						t.Fatalf("the burst %v at %d with %d", burst, at, g)
					}
				}
				if impl.BurstDetected(list, g, at, repeated(0, length)) {
					t.Fatalf("%d zeros at %d are detected with %d", length, at, g)
				}
			}
		}
	}
}

func TestShortBurstsInLongestLists(t *testing.T) {
	for _, g := range []int{3, 19, 69665, 1<<16 + 1} {
		d := degree(g)
		list := withCheck(t, 1, impl.MaxBits-d, g)
		for at := range impl.MaxBits - d + 1 {
			burst := changed(mixedBits(at, d), at%d, 1)
			if !impl.BurstDetected(list, g, at, burst) {
				t.Fatalf("the burst %v at %d is not detected with %d", burst, at, g)
			}
		}
	}
}

// Every burst at every place of short lists, also those that are longer than the degree: exactly the multiples of the generator polynomial are not detected.
func TestBurstsOfAnyLength(t *testing.T) {
	for _, g := range []int{3, 5, 7, 11, 15, 19} {
		list := withCheck(t, g, 5, g)
		for length := range len(list) + 1 {
			for number := range 1 << length {
				burst := digits(number, length)
				for at := 0; at+length <= len(list); at++ {
					want := slices.Contains(dividedBits(burst, g), 1)
					if impl.BurstDetected(list, g, at, burst) != want {
						t.Fatalf("the burst %v at %d of %v with %d is detected: %v", burst, at, list, g, !want)
					}
				}
			}
		}
	}
}

func TestGeneratorsAreNotDetected(t *testing.T) {
	for _, g := range generators() {
		list := withCheck(t, g, 100, g)
		burst := digits(g, degree(g)+1)
		for _, at := range []int{0, 1, 50, len(list) - len(burst)} {
			if impl.BurstDetected(list, g, at, burst) {
				t.Fatalf("%d as a burst at %d is detected", g, at)
			}
		}
		if impl.BurstDetected(list, g, 0, list) {
			t.Fatalf("the list itself as a burst is detected with %d", g)
		}
	}
}

func TestBurstsNotInside(t *testing.T) {
	for _, g := range generators() {
		for _, length := range []int{0, 1, 30, impl.MaxBits - degree(g)} {
			list := withCheck(t, 1, length, g)
			if !impl.BurstDetected(list, g, 0, []int{1}) || !impl.BurstDetected(list, g, len(list)-1, []int{1}) {
				t.Fatalf("a burst at the end of %d bits is not detected with %d", len(list), g)
			}
			for _, at := range []int{-1, -2, -len(list), math.MinInt, math.MinInt + 1, len(list), len(list) + 1, 1 << 32, math.MaxInt - 1, math.MaxInt} {
				for _, burst := range [][]int{nil, {1}, {1, 1}, {1, 0}, {0}} {
					wantNotDetected(t, list, g, at, burst)
				}
			}
			for _, burst := range [][]int{{1, 1}, {1, 0}, {0, 1}} {
				wantNotDetected(t, list, g, len(list)-1, burst)
			}
			wantNotDetected(t, list, g, 0, nil)
			wantNotDetected(t, list, g, len(list), nil)
			wantNotDetected(t, list, g, 0, append(repeated(0, len(list)), 1))
			wantNotDetected(t, list, g, 0, append([]int{1}, repeated(0, len(list))...))
			wantNotDetected(t, list, g, -1, append([]int{0, 1}, repeated(0, len(list)-1)...))
		}
	}
}

func wantNotDetected(t *testing.T, list []int, g int, at int, burst []int) {
	t.Helper()
	if impl.BurstDetected(list, g, at, burst) {
		t.Fatalf("%d bits with %d: the burst %v at %d is detected", len(list), g, burst, at)
	}
}

func TestBurstsInListsThatDoNotPass(t *testing.T) {
	for _, g := range generators() {
		list := withCheck(t, g, 20, g)
		for place := range list {
			wrong := changed(list, place, 1-list[place])
			wantNotDetected(t, wrong, g, 0, []int{1})
			wantNotDetected(t, wrong, g, place, []int{1})
			wantNotDetected(t, wrong, g, len(wrong)-1, []int{1})
		}
	}
}

func TestInvalidBursts(t *testing.T) {
	for _, g := range []int{3, 19, 69665} {
		list := withCheck(t, g, 30, g)
		for _, number := range notBits() {
			wantNotDetected(t, list, g, 0, []int{number})
			wantNotDetected(t, list, g, 3, []int{1, number})
			wantNotDetected(t, list, g, len(list)-2, []int{number, 1})
		}
		longest := withCheck(t, g, impl.MaxBits-degree(g), g)
		wantNotDetected(t, longest, g, 0, repeated(1, impl.MaxBits+1))
	}
}

func TestChecksWithInvalidGenerators(t *testing.T) {
	for _, g := range notGenerators() {
		for _, length := range bitLengths() {
			wantRefusedCheck(t, mixedBits(length, length), g)
			wantRefusedCheck(t, repeated(0, length), g)
		}
	}
}

func TestChecksWithInvalidLists(t *testing.T) {
	for _, g := range generators() {
		for _, number := range notBits() {
			for _, length := range []int{1, 5, 17, 64, 1024} {
				list := repeated(0, length)
				for _, place := range []int{0, length / 2, length - 1} {
					wantRefusedCheck(t, changed(list, place, number), g)
				}
			}
		}
		for _, more := range []int{1, 2, 16, 1024} {
			wantRefusedCheck(t, repeated(0, impl.MaxBits+more), g)
			wantRefusedCheck(t, repeated(1, impl.MaxBits+more), g)
		}
	}
}

func wantRefusedCheck(t *testing.T, list []int, g int) {
	t.Helper()
	if check := impl.CheckBits(list, g); len(check) != 0 {
		t.Fatalf("the check of %v for %d is %v", list, g, check)
	}
	if whole := impl.CheckAppend(list, g); len(whole) != 0 {
		t.Fatalf("%v with its check for %d is %v", list, g, whole)
	}
	if impl.CheckPasses(list, g) {
		t.Fatalf("%v passes for %d", list, g)
	}
	if impl.BurstDetected(list, g, 0, []int{1}) || impl.BurstDetected(list, g, 0, nil) {
		t.Fatalf("a burst in %v is detected with %d", list, g)
	}
}

func TestCheckArgumentsAreNotWritten(t *testing.T) {
	for _, g := range []int{3, 19, 69665} {
		for _, length := range checkLengths() {
			list, whole := guarded(mixedBits(1, length), 7)
			passing, wholePassing := guarded(withCheck(t, 2, length, g), 7)
			burst, wholeBurst := guarded([]int{1}, 7)
			before, beforePassing, beforeBurst := slices.Clone(whole), slices.Clone(wholePassing), slices.Clone(wholeBurst)
			overwrite(impl.CheckBits(list, g), 9)
			overwrite(impl.CheckAppend(list, g), 9)
			overwrite(impl.CheckAppend(passing, g), 9)
			if !impl.CheckPasses(passing, g) || !impl.BurstDetected(passing, g, len(passing)-1, burst) || !impl.BurstDetected(passing, g, 0, burst) {
				t.Fatalf("%d bits with their check for %d", length, g)
			}
			wantInts(t, "list", whole, before)
			wantInts(t, "passing list", wholePassing, beforePassing)
			wantInts(t, "burst", wholeBurst, beforeBurst)
		}
	}
}

func TestCheckResultsAreNewMemory(t *testing.T) {
	for _, g := range []int{3, 19, 69665} {
		for _, length := range checkLengths() {
			list := mixedBits(1, length)
			check, again := impl.CheckBits(list, g), impl.CheckBits(list, g)
			whole, wholeAgain := impl.CheckAppend(list, g), impl.CheckAppend(list, g)
			wantCheck, wantWhole := slices.Clone(check), slices.Clone(whole)
			overwrite(list, 9)
			overwrite(again, 9)
			overwrite(wholeAgain, 9)
			wantInts(t, "CheckBits", check, wantCheck)
			wantInts(t, "CheckAppend", whole, wantWhole)
		}
	}
}
