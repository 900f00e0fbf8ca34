package tests

import (
	"slices"
	"testing"

	"loop.example/softwareradio/impl"
)

func TestMaxBits(t *testing.T) {
	if impl.MaxBits != 1024 {
		t.Fatal(impl.MaxBits)
	}
}

// Promise 27.
func TestBitsAreZeroAndOne(t *testing.T) {
	for _, length := range bitLengths() {
		list := mixedBits(length, length)
		if !impl.BitsValid(list) {
			t.Fatalf("%d bits are invalid", length)
		}
		for cut := range length {
			if !impl.BitsValid(list[:cut]) || !impl.BitsValid(list[cut:]) || !impl.BitsValid(list[cut/2:cut]) {
				t.Fatalf("a part of %d bits, cut at %d, is invalid", length, cut)
			}
		}
		if impl.BitsValid(append(slices.Clone(list), 2)) {
			t.Fatalf("%d bits and a 2 are valid", length)
		}
	}
	if !impl.BitsValid(nil) || !impl.BitsValid([]int{}) {
		t.Fatal("an empty list is invalid")
	}
}

func TestBitsValidBoundsLength(t *testing.T) {
	for _, bit := range []int{0, 1} {
		if !impl.BitsValid(repeated(bit, impl.MaxBits)) {
			t.Fatalf("MaxBits numbers %d are invalid", bit)
		}
		for _, more := range []int{1, 2, 7, 8, 64, 1024, 5000} {
			if impl.BitsValid(repeated(bit, impl.MaxBits+more)) {
				t.Fatalf("MaxBits and %d more numbers %d are valid", more, bit)
			}
		}
	}
}

func TestBitsValidRefusesOtherNumbers(t *testing.T) {
	for _, number := range notBits() {
		for _, length := range bitLengths()[1:] {
			list := mixedBits(length, length)
			for _, place := range []int{0, length / 2, length - 1} {
				if impl.BitsValid(changed(list, place, number)) {
					t.Fatalf("%d at place %d of %d is valid", number, place, length)
				}
			}
		}
	}
}

// Promise 28.
func TestBytesHaveEightBits(t *testing.T) {
	for length := range impl.MaxBits/8 + 1 {
		data := mixedBytes(length, length)
		bits := impl.BitsOfBytes(data)
		if len(bits) != 8*length || !impl.BitsValid(bits) {
			t.Fatalf("%d bytes have %d bits, valid %v", length, len(bits), impl.BitsValid(bits))
		}
		back, ok := impl.BytesOfBits(bits)
		if !ok {
			t.Fatalf("the bits of %d bytes are no bytes", length)
		}
		wantBytes(t, "BytesOfBits of BitsOfBytes", back, data)
		for cut := range length + 1 {
			parts := append(impl.BitsOfBytes(data[:cut]), impl.BitsOfBytes(data[cut:])...)
			wantInts(t, "bits of two parts", parts, bits)
		}
	}
}

func TestBitsOfBytesHighestFirst(t *testing.T) {
	wantInts(t, "bits of 160", impl.BitsOfBytes([]byte{160}), []int{1, 0, 1, 0, 0, 0, 0, 0})
	wantInts(t, "bits of 1 and 128", impl.BitsOfBytes([]byte{1, 128}), []int{0, 0, 0, 0, 0, 0, 0, 1, 1, 0, 0, 0, 0, 0, 0, 0})
	for value := range 256 {
		for _, length := range []int{1, 8, 9, 128} {
			data := slices.Repeat([]byte{^byte(value)}, length)
			data[length-1] = byte(value)
			bits := impl.BitsOfBytes(data)
			for k, bit := range bits {
				if bit != int(data[k/8])>>(7-k%8)&1 {
					t.Fatalf("bit %d of %v is %d", k, data, bit)
				}
			}
		}
	}
}

func TestBitsOfBytesBoundsLength(t *testing.T) {
	for _, value := range []byte{0, 1, 255} {
		most := slices.Repeat([]byte{value}, impl.MaxBits/8)
		if len(impl.BitsOfBytes(most)) != impl.MaxBits {
			t.Fatal("MaxBits/8 bytes are refused")
		}
		for _, more := range []int{1, 2, 8, 128, 1000} {
			if bits := impl.BitsOfBytes(slices.Repeat([]byte{value}, impl.MaxBits/8+more)); len(bits) != 0 {
				t.Fatalf("MaxBits/8 bytes and %d more have %d bits", more, len(bits))
			}
		}
	}
	if len(impl.BitsOfBytes(nil)) != 0 || len(impl.BitsOfBytes([]byte{})) != 0 {
		t.Fatal("no bytes have bits")
	}
}

// Promise 29.
func TestWholeBytesArePacked(t *testing.T) {
	for length := range impl.MaxBits + 1 {
		bits := mixedBits(length, length)
		data, ok := impl.BytesOfBits(bits)
		if ok != (length%8 == 0) {
			t.Fatalf("%d bits: %v", length, ok)
		}
		if !ok {
			wantBytes(t, "bytes beside false", data, nil)
			continue
		}
		wantInts(t, "BitsOfBytes of BytesOfBits", impl.BitsOfBytes(data), bits)
		for _, further := range []int{0, 1} {
			if data, ok := impl.BytesOfBits(append(slices.Clone(bits), further)); ok || len(data) != 0 {
				t.Fatalf("%d bits and a further one are %v, %v", length, data, ok)
			}
		}
	}
}

func TestBytesOfBitsExamples(t *testing.T) {
	data, ok := impl.BytesOfBits([]int{0, 0, 0, 0, 0, 0, 0, 1, 1, 0, 1, 0, 0, 0, 0, 0})
	if !ok {
		t.Fatal("16 bits are no bytes")
	}
	wantBytes(t, "two bytes", data, []byte{1, 160})
	for _, empty := range [][]int{nil, {}} {
		if data, ok := impl.BytesOfBits(empty); !ok || len(data) != 0 {
			t.Fatalf("no bits are %v, %v", data, ok)
		}
	}
}

func TestBytesOfBitsRefusesInvalidLists(t *testing.T) {
	for _, number := range notBits() {
		for _, length := range []int{1, 7, 8, 9, 64, 72, 1024} {
			for _, place := range []int{0, length / 2, length - 1} {
				list := changed(mixedBits(length, length), place, number)
				if data, ok := impl.BytesOfBits(list); ok || len(data) != 0 {
					t.Fatalf("%d at place %d of %d: %v, %v", number, place, length, data, ok)
				}
			}
		}
	}
	for _, more := range []int{1, 8, 64, 1024} {
		if data, ok := impl.BytesOfBits(repeated(1, impl.MaxBits+more)); ok || len(data) != 0 {
			t.Fatalf("MaxBits and %d more bits: %v, %v", more, data, ok)
		}
	}
}

// Promise 30.
func TestDistancesAreMetric(t *testing.T) {
	for _, length := range bitLengths() {
		a := mixedBits(2*length, length)
		b := mixedBits(2*length+1, length)
		distance := impl.HammingDistance(a, b)
		if distance != differences(a, b) {
			t.Fatalf("the distance of %d bits is %d, not %d", length, distance, differences(a, b))
		}
		if impl.HammingDistance(b, a) != distance {
			t.Fatalf("the distance of %d bits is not symmetric", length)
		}
		if impl.HammingDistance(impl.AddBits(a, b), repeated(0, length)) != distance {
			t.Fatalf("the distance of %d bits is not that of the sum from zeros", length)
		}
		if impl.HammingDistance(a, slices.Clone(a)) != 0 || impl.HammingDistance(a, a) != 0 {
			t.Fatalf("equal lists of %d bits have a distance", length)
		}
		for place := range length {
			if impl.HammingDistance(a, changed(a, place, 1-a[place])) != 1 {
				t.Fatalf("the difference in place %d of %d is not counted", place, length)
			}
		}
		if impl.HammingDistance(repeated(0, length), repeated(1, length)) != length {
			t.Fatalf("opposite lists of %d bits do not differ everywhere", length)
		}
	}
	if impl.HammingDistance(nil, []int{}) != 0 {
		t.Fatal("empty lists have a distance")
	}
}

func differences(a []int, b []int) int {
	count := 0
	for k := range a {
		if a[k] != b[k] {
			count++
		}
	}
	return count
}

// Promise 122.
func TestDetoursAreNotShorter(t *testing.T) {
	for _, length := range bitLengths() {
		a := mixedBits(3*length, length)
		b := mixedBits(3*length+1, length)
		for _, c := range [][]int{mixedBits(3*length+2, length), a, b, impl.AddBits(a, b), repeated(0, length), repeated(1, length)} {
			direct := impl.HammingDistance(a, b)
			detour := impl.HammingDistance(a, c) + impl.HammingDistance(c, b)
			if direct < 0 || detour < direct {
				t.Fatalf("%d bits: distance %d, detour %d", length, direct, detour)
			}
		}
	}
}

// All lists of three bits: the shortest detours are as long as the direct way.
func TestDetoursOfShortLists(t *testing.T) {
	bits := func(n int) []int { return []int{n >> 2, n >> 1 & 1, n & 1} }
	for a := range 8 {
		for b := range 8 {
			direct := impl.HammingDistance(bits(a), bits(b))
			shortest := 9
			for c := range 8 {
				shortest = min(shortest, impl.HammingDistance(bits(a), bits(c))+impl.HammingDistance(bits(c), bits(b)))
			}
			if direct != shortest || direct != differences(bits(a), bits(b)) {
				t.Fatalf("%v to %v: distance %d, detour %d", bits(a), bits(b), direct, shortest)
			}
		}
	}
}

// Promise 31.
func TestAddingTwiceUndoes(t *testing.T) {
	for _, length := range bitLengths() {
		a := mixedBits(2*length, length)
		b := mixedBits(2*length+1, length)
		sum := impl.AddBits(a, b)
		want := make([]int, length)
		for k := range want {
			want[k] = (a[k] + b[k]) % 2
		}
		wantInts(t, "sum", sum, want)
		wantInts(t, "sum in the other order", impl.AddBits(b, a), sum)
		wantInts(t, "second list added again", impl.AddBits(sum, b), a)
		wantInts(t, "list added to itself", impl.AddBits(a, a), repeated(0, length))
		wantInts(t, "zeros added", impl.AddBits(a, repeated(0, length)), a)
	}
	wantInts(t, "sum of empty lists", impl.AddBits(nil, []int{}), nil)
}

func TestPairsOfDifferentLengths(t *testing.T) {
	for _, first := range bitLengths() {
		for _, second := range bitLengths() {
			if first != second {
				wantRefusedPair(t, repeated(0, first), repeated(0, second))
				wantRefusedPair(t, mixedBits(1, first), mixedBits(1, second))
			}
		}
	}
}

func TestPairsWithInvalidLists(t *testing.T) {
	for _, number := range notBits() {
		for _, length := range []int{1, 5, 8, 64, 65, 1024} {
			list := mixedBits(length, length)
			for _, place := range []int{0, length / 2, length - 1} {
				wrong := changed(list, place, number)
				wantRefusedPair(t, list, wrong)
				wantRefusedPair(t, wrong, list)
				wantRefusedPair(t, wrong, wrong)
				wantRefusedPair(t, nil, wrong)
				wantRefusedPair(t, wrong, nil)
			}
		}
	}
	long := repeated(1, impl.MaxBits+1)
	wantRefusedPair(t, long, slices.Clone(long))
	wantRefusedPair(t, long, long[1:])
	wantRefusedPair(t, long[1:], long)
	wantRefusedPair(t, long, nil)
	wantRefusedPair(t, nil, long)
}

func wantRefusedPair(t *testing.T, a []int, b []int) {
	t.Helper()
	if distance := impl.HammingDistance(a, b); distance != -1 {
		t.Fatalf("the distance of %v and %v is %d", a, b, distance)
	}
	if sum := impl.AddBits(a, b); len(sum) != 0 {
		t.Fatalf("the sum of %v and %v is %v", a, b, sum)
	}
}

func TestBitsArgumentsAreNotWritten(t *testing.T) {
	for _, length := range bitLengths() {
		a, wholeA := guarded(mixedBits(1, length), 7)
		b, wholeB := guarded(mixedBits(2, length), 7)
		data, wholeData := guarded(mixedBytes(3, length/8), 7)
		beforeA, beforeB, beforeData := slices.Clone(wholeA), slices.Clone(wholeB), slices.Clone(wholeData)
		impl.BitsValid(a)
		overwrite(impl.BitsOfBytes(data), 9)
		packed, _ := impl.BytesOfBits(a)
		overwrite(packed, 9)
		impl.HammingDistance(a, b)
		overwrite(impl.AddBits(a, b), 9)
		overwrite(impl.AddBits(a, repeated(0, length)), 9)
		overwrite(impl.AddBits(a, a), 9)
		wantInts(t, "first list", wholeA, beforeA)
		wantInts(t, "second list", wholeB, beforeB)
		wantBytes(t, "bytes", wholeData, beforeData)
	}
}

func TestBitsResultsAreNewMemory(t *testing.T) {
	for _, length := range bitLengths() {
		a, b, data := mixedBits(1, length), mixedBits(2, length), mixedBytes(3, length/8)
		bits := impl.BitsOfBytes(data)
		again := impl.BitsOfBytes(data)
		packed, _ := impl.BytesOfBits(a)
		sum := impl.AddBits(a, b)
		unchanged := impl.AddBits(a, repeated(0, length))
		wantBits, wantPacked, wantSum, wantUnchanged := slices.Clone(bits), slices.Clone(packed), slices.Clone(sum), slices.Clone(a)
		overwrite(a, 1)
		overwrite(b, 1)
		overwrite(data, 255)
		overwrite(again, 1)
		wantInts(t, "BitsOfBytes", bits, wantBits)
		wantBytes(t, "BytesOfBits", packed, wantPacked)
		wantInts(t, "AddBits", sum, wantSum)
		wantInts(t, "AddBits with zeros", unchanged, wantUnchanged)
	}
}
