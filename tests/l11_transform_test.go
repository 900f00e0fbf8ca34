package tests

import (
	"math"
	"slices"
	"testing"

	"loop.example/softwareradio/impl"
)

// rootPowers are the powers of 2 modulo 257, with the exponents 0 to 15.
func rootPowers() []int {
	return []int{1, 2, 4, 8, 16, 32, 64, 128, 256, 255, 253, 249, 241, 225, 193, 129}
}

// notResidues are numbers other than 0 to 256; some of them look like one if only their last digits, their remainders or their absolute values are kept.
func notResidues() []int {
	return []int{
		-1, -2, -16, -255, -256, -257, -258, -514, -1000, -65536, 257, 258, 259, 272, 511, 512, 513, 514, 515, 1000, 1001, 65535, 65536, 65537, 65793,
		1 << 31, -1 << 31, 1 << 32, -1 << 32, 1<<32 + 1, 1<<32 + 256, 1<<32 - 1, 1 << 62, -1 << 62,
		math.MaxInt, math.MaxInt - 1, math.MinInt, math.MinInt + 1, math.MinInt + 256,
	}
}

// notPointLengths are the lengths up to 64 other than 16, and some that look like 16 if only their last digits are kept.
func notPointLengths() []int {
	var lengths []int
	for length := range 65 {
		if length != 16 {
			lengths = append(lengths, length)
		}
	}
	return append(lengths, 128, 255, 256, 257, 272, 1040, 65536, 65552)
}

// notPrefixes are numbers other than 0 to 16; some of them look like one if only their last digits or their absolute values are kept, or if a length is added to them.
func notPrefixes() []int {
	return []int{
		-1, -2, -3, -8, -15, -16, -17, -32, -256, -257, 17, 18, 19, 24, 31, 32, 33, 48, 64, 100, 255, 256, 257, 272, 1024, 65536, 65537, 65552,
		1 << 31, -1 << 31, 1 << 32, 1<<32 + 1, 1<<32 + 16, -1 << 32, -1<<32 + 1, 1 << 62, -1 << 62,
		math.MaxInt, math.MaxInt - 1, math.MaxInt - 15, math.MaxInt - 16, math.MinInt, math.MinInt + 1, math.MinInt + 15, math.MinInt + 16,
	}
}

// mixedResidues has numbers below a limit.
func mixedResidues(seed int, length int, limit int) []int {
	list := make([]int, length)
	for k := range list {
		list[k] = int(mixed(seed, k) % uint64(limit))
	}
	return list
}

// pointLists are the same number everywhere, one number among zeros and among greatest numbers at each place, numbers in order, and mixed ones.
func pointLists() [][]int {
	ascending := []int{0, 1, 2, 3, 4, 5, 6, 7, 8, 9, 10, 11, 12, 13, 14, 15}
	lists := [][]int{ascending, {256, 0, 256, 0, 256, 0, 256, 0, 256, 0, 256, 0, 256, 0, 256, 0}, rootPowers()}
	for _, number := range []int{0, 1, 2, 16, 128, 255, 256} {
		lists = append(lists, repeated(number, 16))
		for place := range 16 {
			if number > 0 {
				lists = append(lists, changed(repeated(0, 16), place, number))
			}
		}
	}
	for place := range 16 {
		lists = append(lists, changed(repeated(256, 16), place, 0), changed(repeated(256, 16), place, 255))
	}
	for seed := range 30 {
		lists = append(lists, mixedResidues(seed, 16, 257), mixedResidues(-seed-1, 16, 2+seed))
	}
	return lists
}

func eachPairOfPointLists(test func(a []int, b []int)) {
	lists := pointLists()
	for _, a := range lists {
		for _, b := range lists {
			test(a, b)
		}
	}
}

// remainder is not negative.
func remainder(number int) int {
	return (number%257 + 257) % 257
}

func remainders(list []int) []int {
	list = slices.Clone(list)
	for k, number := range list {
		list[k] = remainder(number)
	}
	return list
}

func modularSum(a []int, b []int) []int {
	sum := slices.Clone(a)
	for k, number := range b {
		sum[k] += number
	}
	return remainders(sum)
}

func modularProduct(a []int, b []int) []int {
	product := slices.Clone(a)
	for k, number := range b {
		product[k] *= number
	}
	return remainders(product)
}

// shifted moves every number by a number of places, and the last ones to the beginning.
func shifted(list []int, places int) []int {
	var result []int
	for k := range list {
		result = append(result, list[(k+len(list)-places)%len(list)])
	}
	return result
}

// powerSums are the sums over all j of list[j] * root^(j*k), where root is 2 to the power of an exponent.
func powerSums(list []int, exponent int) []int {
	var sums []int
	for k := range 16 {
		sum := 0
		for j, number := range list {
			sum += number * rootPowers()[exponent*j*k%16]
		}
		sums = append(sums, sum%257)
	}
	return sums
}

// modelTransform is the sum by the definition.
func modelTransform(list []int) []int {
	return powerSums(list, 1)
}

// modelBackward takes the inverse of the root, which is 2 to the power of 15, and divides by 16, whose inverse modulo 257 is 241.
func modelBackward(list []int) []int {
	return modularProduct(powerSums(list, 15), repeated(241, 16))
}

// modelCyclic adds every product to the place that the sum of both indexes has.
func modelCyclic(a []int, b []int) []int {
	product := make([]int, 16)
	for i, number := range a {
		for j, factor := range b {
			product[(i+j)%16] += number * factor
		}
	}
	return remainders(product)
}

// folded is a filter as a list of points: the numbers of places that differ by 16 are added.
func folded(filter []int) []int {
	list := make([]int, 16)
	for k, number := range filter {
		list[k%16] += number
	}
	return remainders(list)
}

// wantRefusedPoints checks that a list is invalid for the transforms and for the product with every kind of list.
func wantRefusedPoints(t *testing.T, list []int) {
	t.Helper()
	wantInts(t, "ForwardTransform", impl.ForwardTransform(list), nil)
	wantInts(t, "BackwardTransform", impl.BackwardTransform(list), nil)
	for _, other := range [][]int{repeated(0, 16), repeated(256, 16), changed(repeated(0, 16), 0, 1), rootPowers(), nil, list, repeated(257, 16)} {
		wantInts(t, "CyclicProduct", impl.CyclicProduct(list, other), nil)
		wantInts(t, "CyclicProduct in the other order", impl.CyclicProduct(other, list), nil)
	}
}

func TestPointsAndModulus(t *testing.T) {
	if impl.Points != 16 || impl.Modulus != 257 {
		t.Fatal(impl.Points, impl.Modulus)
	}
}

// Promise 66.
func TestRootHasTheOrderOfTheTransform(t *testing.T) {
	root := impl.TransformRoot()
	if root != 2 {
		t.Fatalf("the root is %d", root)
	}
	power := 1
	for exponent := 1; exponent <= impl.Points; exponent++ {
		power = power * root % impl.Modulus
		if (power == 1) != (exponent == impl.Points) {
			t.Fatalf("the power with the exponent %d is %d", exponent, power)
		}
		if power != rootPowers()[exponent%16] {
			t.Fatalf("the power with the exponent %d is %d, not %d", exponent, power, rootPowers()[exponent%16])
		}
	}
}

func TestTransformExamples(t *testing.T) {
	single := changed(repeated(0, 16), 1, 1)
	wantInts(t, "a number at place 1", impl.ForwardTransform(single), rootPowers())
	wantInts(t, "and back", impl.BackwardTransform(rootPowers()), single)
	wantInts(t, "a number at place 15", impl.ForwardTransform(changed(repeated(0, 16), 15, 1)), []int{1, 129, 193, 225, 241, 249, 253, 255, 256, 128, 64, 32, 16, 8, 4, 2})
	wantInts(t, "a number at place 8", impl.ForwardTransform(changed(repeated(0, 16), 8, 1)), []int{1, 256, 1, 256, 1, 256, 1, 256, 1, 256, 1, 256, 1, 256, 1, 256})
	wantInts(t, "zeros", impl.ForwardTransform(repeated(0, 16)), repeated(0, 16))
	wantInts(t, "zeros back", impl.BackwardTransform(repeated(0, 16)), repeated(0, 16))
	wantInts(t, "ones", impl.ForwardTransform(repeated(1, 16)), changed(repeated(0, 16), 0, 16))
	wantInts(t, "greatest numbers", impl.ForwardTransform(repeated(256, 16)), changed(repeated(0, 16), 0, 241))
	wantInts(t, "ones back", impl.BackwardTransform(repeated(1, 16)), changed(repeated(0, 16), 0, 1))
	wantInts(t, "greatest numbers back", impl.BackwardTransform(repeated(256, 16)), changed(repeated(0, 16), 0, 256))
}

// Promise 10, against the sum by the definition.
func TestTransformsAreInvertible(t *testing.T) {
	for _, list := range pointLists() {
		transform := impl.ForwardTransform(list)
		wantInts(t, "ForwardTransform", transform, modelTransform(list))
		wantInts(t, "BackwardTransform", impl.BackwardTransform(transform), list)
		if transform[0] != numberSum(list)%257 {
			t.Fatalf("the numbers of %v have the sum %d", list, transform[0])
		}
	}
}

// Promise 10, with every number at the first place.
func TestFirstNumberIsEverywhere(t *testing.T) {
	for number := range 257 {
		list := changed(repeated(0, 16), 0, number)
		wantInts(t, "ForwardTransform", impl.ForwardTransform(list), repeated(number, 16))
		wantInts(t, "BackwardTransform", impl.BackwardTransform(repeated(number, 16)), list)
	}
}

// Promises 10 and 67, with every number at every place.
func TestSingleNumbersAreTransformed(t *testing.T) {
	for place := range 16 {
		for number := range 257 {
			list := changed(repeated(0, 16), place, number)
			forward, backward := impl.ForwardTransform(list), impl.BackwardTransform(list)
			wantInts(t, "ForwardTransform", forward, modelTransform(list))
			wantInts(t, "BackwardTransform", backward, modelBackward(list))
			wantInts(t, "forward and backward", impl.BackwardTransform(forward), list)
			wantInts(t, "backward and forward", impl.ForwardTransform(backward), list)
		}
	}
}

// Promise 67.
func TestEveryListIsATransform(t *testing.T) {
	for _, list := range pointLists() {
		backward := impl.BackwardTransform(list)
		wantInts(t, "BackwardTransform", backward, modelBackward(list))
		wantInts(t, "ForwardTransform", impl.ForwardTransform(backward), list)
	}
}

// Promise 114, also with more places than one.
func TestShiftsMultiply(t *testing.T) {
	for _, list := range pointLists() {
		transform := impl.ForwardTransform(list)
		for places := range 16 {
			var factors []int
			for k := range 16 {
				factors = append(factors, rootPowers()[places*k%16])
			}
			wantInts(t, "shifted", impl.ForwardTransform(shifted(list, places)), modularProduct(transform, factors))
		}
	}
}

// Promise 137.
func TestTransformsAreLinear(t *testing.T) {
	eachPairOfPointLists(func(a []int, b []int) {
		sum := modularSum(impl.ForwardTransform(a), impl.ForwardTransform(b))
		wantInts(t, "the transform of the sum", impl.ForwardTransform(modularSum(a, b)), sum)
		wantInts(t, "the sum", impl.BackwardTransform(sum), modularSum(a, b))
	})
}

// Promise 138.
func TestTransformingTwiceReverses(t *testing.T) {
	check := func(list []int) {
		var reversed []int
		for k := range 16 {
			reversed = append(reversed, 16*list[(16-k)%16]%257)
		}
		wantInts(t, "twice", impl.ForwardTransform(impl.ForwardTransform(list)), reversed)
	}
	for _, list := range pointLists() {
		check(list)
	}
	for place := range 16 {
		for number := range 257 {
			check(changed(repeated(0, 16), place, number))
		}
	}
}

func TestCyclicProductExamples(t *testing.T) {
	list := []int{9, 8, 7, 6, 5, 4, 3, 2, 1, 0, 256, 10, 11, 12, 13, 14}
	wantInts(t, "with 1", impl.CyclicProduct(list, changed(repeated(0, 16), 0, 1)), list)
	wantInts(t, "shifted by one place", impl.CyclicProduct(list, changed(repeated(0, 16), 1, 1)), []int{14, 9, 8, 7, 6, 5, 4, 3, 2, 1, 0, 256, 10, 11, 12, 13})
	wantInts(t, "shifted by 15 places", impl.CyclicProduct(list, changed(repeated(0, 16), 15, 1)), []int{8, 7, 6, 5, 4, 3, 2, 1, 0, 256, 10, 11, 12, 13, 14, 9})
	wantInts(t, "negated", impl.CyclicProduct(list, changed(repeated(0, 16), 0, 256)), []int{248, 249, 250, 251, 252, 253, 254, 255, 256, 0, 1, 247, 246, 245, 244, 243})
	wantInts(t, "zeros", impl.CyclicProduct(list, repeated(0, 16)), repeated(0, 16))
	wantInts(t, "ones", impl.CyclicProduct(repeated(1, 16), repeated(1, 16)), repeated(16, 16))
	wantInts(t, "greatest numbers", impl.CyclicProduct(repeated(256, 16), repeated(256, 16)), repeated(16, 16))
	wantInts(t, "the last places", impl.CyclicProduct(changed(repeated(0, 16), 15, 256), changed(repeated(0, 16), 15, 2)), changed(repeated(0, 16), 14, 255))
}

// Promise 11, against the definition of the cyclic convolution.
func TestProductsBecomeMultiplications(t *testing.T) {
	eachPairOfPointLists(func(a []int, b []int) {
		product := impl.CyclicProduct(a, b)
		wantInts(t, "CyclicProduct", product, modelCyclic(a, b))
		wantInts(t, "the other order", impl.CyclicProduct(b, a), product)
		wantInts(t, "the transform", impl.ForwardTransform(product), modularProduct(impl.ForwardTransform(a), impl.ForwardTransform(b)))
	})
}

// Promise 11, with a single number in each list.
func TestProductsOfSingleNumbers(t *testing.T) {
	for i := range 16 {
		for j := range 16 {
			for number := range 257 {
				a, b := changed(repeated(0, 16), i, number), changed(repeated(0, 16), j, 256-number/2)
				want := changed(repeated(0, 16), (i+j)%16, number*(256-number/2)%257)
				wantInts(t, "CyclicProduct", impl.CyclicProduct(a, b), want)
				wantInts(t, "the other order", impl.CyclicProduct(b, a), want)
			}
		}
	}
}

// Promise 11, with the same list twice.
func TestProductsOfAListWithItself(t *testing.T) {
	for _, list := range pointLists() {
		wantInts(t, "CyclicProduct", impl.CyclicProduct(list, list), modelCyclic(list, list))
	}
}

func TestPrefixExamples(t *testing.T) {
	list := []int{9, 8, 7, 6, 5, 4, 3, 2, 1, 0, 256, 10, 11, 12, 13, 14}
	wantInts(t, "no prefix", impl.AddPrefix(list, 0), list)
	wantInts(t, "a prefix of 1", impl.AddPrefix(list, 1), []int{14, 9, 8, 7, 6, 5, 4, 3, 2, 1, 0, 256, 10, 11, 12, 13, 14})
	wantInts(t, "a prefix of 15", impl.AddPrefix(list, 15), append(slices.Clone(list[1:]), list...))
	wantInts(t, "a prefix of 16", impl.AddPrefix(list, 16), append(slices.Clone(list), list...))
}

// wantPrefixes checks promise 68 for prefixes of all lengths.
func wantPrefixes(t *testing.T, list []int) {
	t.Helper()
	for n := range 17 {
		result := impl.AddPrefix(list, n)
		if len(result) != 16+n {
			t.Fatalf("%v with a prefix of %d numbers is %v", list, n, result)
		}
		wantInts(t, "behind the prefix", result[n:], list)
		wantInts(t, "the prefix", result[:n], list[16-n:])
	}
}

// Promise 68.
func TestPrefixRepeatsTheEnd(t *testing.T) {
	for _, list := range pointLists() {
		wantPrefixes(t, list)
	}
	for seed := range 100 {
		wantPrefixes(t, mixedResidues(seed, 16, 257))
	}
}

// Promise 68. The chapter bounds the numbers of the other functions alone.
func TestPrefixesOfAnyNumbers(t *testing.T) {
	for _, number := range notResidues() {
		wantPrefixes(t, repeated(number, 16))
		for place := range 16 {
			wantPrefixes(t, changed(mixedNumbers(place, 16, 1000), place, number))
		}
	}
}

// wantCyclicFilter checks promise 69 for one filter, against the program's cyclic product and the model.
func wantCyclicFilter(t *testing.T, list []int, n int, filter []int) {
	t.Helper()
	filtered := impl.FilterSequence(impl.AddPrefix(list, n), filter)
	if len(filtered) < n+16 {
		t.Fatalf("%v with a prefix of %d numbers, filtered with %v: %v", list, n, filter, filtered)
	}
	behind := remainders(filtered[n : n+16])
	wantInts(t, "the cyclic convolution", behind, modelCyclic(list, folded(filter)))
	wantInts(t, "CyclicProduct", behind, impl.CyclicProduct(list, folded(filter)))
}

// Promise 69, for prefixes and filters of all lengths, with numbers of the transform and others.
func TestPrefixMakesFiltersCyclic(t *testing.T) {
	for n := range 17 {
		for taps := 1; taps <= n+1; taps++ {
			for seed := range 5 {
				list := mixedResidues(seed+100*n, 16, 257)
				wantCyclicFilter(t, list, n, mixedResidues(seed-taps, taps, 257))
				wantCyclicFilter(t, list, n, mixedNumbers(seed-taps, taps, 1000))
			}
			for _, number := range []int{0, 1, -1, 256, 257, -257, 1000, -1000} {
				wantCyclicFilter(t, mixedResidues(taps, 16, 257), n, repeated(number, taps))
				wantCyclicFilter(t, repeated(256, 16), n, repeated(number, taps))
			}
		}
	}
}

// Promise 69, with the filters of one number, and of one more than the prefix has.
func TestNamedFiltersOfPrefixes(t *testing.T) {
	for _, list := range pointLists() {
		for _, n := range []int{0, 1, 15, 16} {
			wantCyclicFilter(t, list, n, []int{1})
			wantCyclicFilter(t, list, n, []int{256})
			wantCyclicFilter(t, list, n, changed(repeated(0, n+1), n, 1))
			wantCyclicFilter(t, list, n, repeated(256, n+1))
			wantCyclicFilter(t, list, n, mixedResidues(n, n+1, 257))
		}
	}
}

// A delay by as many places as the prefix has turns the list by as many.
func TestPrefixesAndDelays(t *testing.T) {
	for n := range 17 {
		for places := range n + 1 {
			for seed := range 5 {
				list := mixedResidues(seed, 16, 257)
				filtered := impl.FilterSequence(impl.AddPrefix(list, n), changed(repeated(0, places+1), places, 1))
				wantInts(t, "delayed", filtered[n:n+16], shifted(list, places%16))
			}
		}
	}
}

func TestOtherPrefixes(t *testing.T) {
	for _, list := range append(pointLists(), mixedNumbers(1, 16, 1000), repeated(-1, 16)) {
		for _, n := range notPrefixes() {
			wantInts(t, "AddPrefix", impl.AddPrefix(list, n), nil)
		}
	}
}

func TestTransformsOfOtherLengths(t *testing.T) {
	for _, length := range notPointLengths() {
		for _, list := range [][]int{repeated(0, length), repeated(256, length), mixedResidues(length, length, 257), repeated(-1, length)} {
			wantRefusedPoints(t, list)
			for n := range 17 {
				wantInts(t, "AddPrefix", impl.AddPrefix(list, n), nil)
			}
			for _, n := range append(notPrefixes(), length, length-1, length+1) {
				wantInts(t, "AddPrefix", impl.AddPrefix(list, n), nil)
			}
		}
	}
	wantRefusedPoints(t, nil)
	wantRefusedPoints(t, []int{})
}

func TestTransformsOfOtherNumbers(t *testing.T) {
	for _, number := range notResidues() {
		for place := range 16 {
			for _, list := range [][]int{repeated(0, 16), repeated(256, 16), rootPowers(), mixedResidues(place, 16, 257)} {
				wantRefusedPoints(t, changed(list, place, number))
			}
		}
		wantRefusedPoints(t, repeated(number, 16))
	}
	for number := 257; number < 1500; number++ {
		wantRefusedPoints(t, changed(repeated(1, 16), number%16, number))
		wantRefusedPoints(t, changed(repeated(1, 16), number%16, 256-number))
	}
}

// Two numbers out of the range do not make up for each other.
func TestTransformsOfTwoOtherNumbers(t *testing.T) {
	for place := range 15 {
		for _, numbers := range [][]int{{-1, 1}, {-1, 257}, {257, -257}, {257, 257}, {-1, -1}, {258, 255}, {math.MinInt, math.MaxInt}} {
			wantRefusedPoints(t, changed(changed(repeated(0, 16), place, numbers[0]), place+1, numbers[1]))
			wantRefusedPoints(t, changed(changed(repeated(0, 16), 15-place, numbers[0]), 14-place, numbers[1]))
		}
	}
}

func TestTransformArgumentsAreNotWritten(t *testing.T) {
	check := func(a []int, b []int) {
		first, wholeFirst := guarded(a, 7)
		second, wholeSecond := guarded(b, -7)
		beforeFirst, beforeSecond := slices.Clone(wholeFirst), slices.Clone(wholeSecond)
		overwrite(impl.ForwardTransform(first), 9)
		overwrite(impl.BackwardTransform(first), 9)
		overwrite(impl.CyclicProduct(first, second), 9)
		overwrite(impl.CyclicProduct(first, first), 9)
		for n := -1; n <= 17; n++ {
			overwrite(impl.AddPrefix(first, n), 9)
		}
		wantInts(t, "first", wholeFirst, beforeFirst)
		wantInts(t, "second", wholeSecond, beforeSecond)
	}
	for _, list := range pointLists() {
		for _, other := range [][]int{nil, list, repeated(0, 16), changed(repeated(0, 16), 0, 1), changed(list, 15, 257), changed(list, 0, -1), list[1:], append(slices.Clone(list), 5)} {
			check(list, other)
			check(other, list)
		}
	}
}

// Zeros, a product with 1, and a prefix of no numbers leave the list as it is; the results are new memory nevertheless.
func TestTransformResultsAreNewMemory(t *testing.T) {
	for _, list := range pointLists() {
		one := changed(repeated(0, 16), 0, 1)
		first, second := slices.Clone(list), slices.Clone(one)
		forward, forwardAgain := impl.ForwardTransform(first), impl.ForwardTransform(first)
		backward, backwardAgain := impl.BackwardTransform(first), impl.BackwardTransform(first)
		product, productAgain := impl.CyclicProduct(first, second), impl.CyclicProduct(second, first)
		var prefixed [][]int
		for n := range 17 {
			prefixed = append(prefixed, impl.AddPrefix(first, n))
			overwrite(impl.AddPrefix(first, n), 9)
		}
		for _, other := range [][]int{first, second, forwardAgain, backwardAgain, productAgain} {
			overwrite(other, 9)
		}
		wantInts(t, "ForwardTransform", forward, modelTransform(list))
		wantInts(t, "BackwardTransform", backward, modelBackward(list))
		wantInts(t, "CyclicProduct", product, list)
		for n, result := range prefixed {
			wantInts(t, "AddPrefix", result, append(slices.Clone(list[16-n:]), list...))
		}
	}
}

// The results are the same after every call, also if results are written to.
func TestTransformKeepsNoState(t *testing.T) {
	for _, list := range pointLists() {
		for _, other := range [][]int{repeated(256, 16), repeated(257, 16), repeated(1, 15), nil, rootPowers()} {
			overwrite(impl.ForwardTransform(other), 9)
			overwrite(impl.BackwardTransform(other), 9)
			overwrite(impl.CyclicProduct(other, list), 9)
			overwrite(impl.AddPrefix(other, 16), 9)
			wantInts(t, "ForwardTransform", impl.ForwardTransform(list), modelTransform(list))
			wantInts(t, "BackwardTransform", impl.BackwardTransform(list), modelBackward(list))
			wantInts(t, "CyclicProduct", impl.CyclicProduct(list, list), modelCyclic(list, list))
			wantInts(t, "AddPrefix", impl.AddPrefix(list, 2), append(slices.Clone(list[14:]), list...))
		}
		if impl.TransformRoot() != 2 {
			t.Fatalf("the root is %d", impl.TransformRoot())
		}
	}
}
