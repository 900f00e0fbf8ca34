package tests

import (
	"math"
	"slices"
	"testing"

	"loop.example/softwareradio/impl"
)

// notElements are numbers below 0 and from 16 on; some of them look like an element if only their last digits are kept.
func notElements() []int {
	return []int{
		-1, -2, -15, -16, -17, -256, -1 << 32, 16, 17, 18, 19, 31, 32, 255, 256, 257, 1 << 32, 1<<32 + 1, 1<<32 + 15,
		math.MaxInt, math.MaxInt - 1, math.MinInt, math.MinInt + 1, math.MinInt + 15,
	}
}

// dividedProduct multiplies two elements as on paper: all products of two coefficients first, then the division by x^4 + x + 1.
func dividedProduct(a int, b int) int {
	product := 0
	for i := range 4 {
		for j := range 4 {
			product ^= (a >> i & 1) * (b >> j & 1) << (i + j)
		}
	}
	for power := 6; power >= 4; power-- {
		if product>>power&1 == 1 {
			product ^= 0b10011 << (power - 4)
		}
	}
	return product
}

// repeatedProduct returns a power by multiplying one factor after the other.
func repeatedProduct(a int, n int) int {
	power := 1
	for range n {
		power = dividedProduct(power, a)
	}
	return power
}

// addedPowers returns the value of a polynomial as the sum of its coefficients times their powers.
func addedPowers(list []int, x int) int {
	value := 0
	for k, coefficient := range list {
		value ^= dividedProduct(coefficient, repeatedProduct(x, len(list)-1-k))
	}
	return value
}

// eachPair calls a test with every pair of elements.
func eachPair(test func(a int, b int)) {
	for a := range 16 {
		for b := range 16 {
			test(a, b)
		}
	}
}

// mixedElements returns a list of elements that depends on the seed.
func mixedElements(seed int, length int) []int {
	list := make([]int, length)
	for k := range list {
		list[k] = int(mixed(seed, k) % 16)
	}
	return list
}

// eachPolynomial calls a test with all lists of a number of elements.
func eachPolynomial(length int, test func(list []int)) {
	for number := range 1 << (4 * length) {
		list := make([]int, length)
		for k := range list {
			list[k] = number >> (4 * (length - 1 - k)) & 15
		}
		test(list)
	}
}

// somePolynomials calls a test with all short lists of elements, and for every length up to 15 with zeros, ones, fifteens and some mixed lists.
func somePolynomials(test func(list []int)) {
	for length := range 4 {
		eachPolynomial(length, test)
	}
	for length := range 16 {
		for _, list := range [][]int{repeated(0, length), repeated(1, length), repeated(15, length)} {
			test(list)
		}
		for seed := range 60 {
			test(mixedElements(seed, length))
		}
	}
}

// timesFactor returns the product of a polynomial and of x plus an element, without the program.
func timesFactor(list []int, zero int) []int {
	product := append(slices.Clone(list), 0)
	for k, coefficient := range list {
		product[k+1] ^= dividedProduct(coefficient, zero)
	}
	return product
}

// wantFewZeros checks a polynomial whose first coefficient is not 0, and returns its number of zeros.
func wantFewZeros(t *testing.T, list []int) int {
	t.Helper()
	zeros := 0
	for x := range 16 {
		if impl.PolynomialAt(list, x) == 0 {
			zeros++
		}
	}
	if zeros > len(list)-1 {
		t.Fatalf("%v has the degree %d and %d zeros", list, len(list)-1, zeros)
	}
	return zeros
}

func wantValue(t *testing.T, list []int, x int, want int) {
	t.Helper()
	if got := impl.PolynomialAt(list, x); got != want {
		t.Fatalf("the value of %v at %d is %d, want %d", list, x, got, want)
	}
}

func TestFieldSize(t *testing.T) {
	if impl.FieldSize != 16 {
		t.Fatal(impl.FieldSize)
	}
}

// Products of small polynomials, computed by hand.
func TestFieldExamples(t *testing.T) {
	for _, row := range [][3]int{{8, 2, 3}, {3, 3, 5}, {4, 4, 3}, {8, 8, 12}, {15, 15, 10}, {9, 2, 1}, {7, 6, 1}, {0, 7, 0}, {7, 0, 0}, {0, 0, 0}, {1, 13, 13}, {13, 1, 13}} {
		if got := impl.FieldMul(row[0], row[1]); got != row[2] {
			t.Fatalf("%d times %d is %d, want %d", row[0], row[1], got, row[2])
		}
	}
	for _, row := range [][3]int{{5, 3, 6}, {15, 15, 0}, {0, 9, 9}, {8, 7, 15}} {
		if got := impl.FieldAdd(row[0], row[1]); got != row[2] {
			t.Fatalf("%d plus %d is %d, want %d", row[0], row[1], got, row[2])
		}
	}
}

func TestProductsAreThoseOfPolynomials(t *testing.T) {
	eachPair(func(a int, b int) {
		if got := impl.FieldMul(a, b); got != dividedProduct(a, b) {
			t.Fatalf("%d times %d is %d, want %d", a, b, got, dividedProduct(a, b))
		}
	})
}

// Promise 4, with all elements.
func TestFieldIsField(t *testing.T) {
	eachPair(func(a int, b int) {
		product := impl.FieldMul(a, b)
		if product < 0 || product > 15 || product != impl.FieldMul(b, a) {
			t.Fatalf("%d times %d is %d, and %d in the other order", a, b, product, impl.FieldMul(b, a))
		}
		if (product == 0) != (a == 0 || b == 0) {
			t.Fatalf("%d times %d is %d", a, b, product)
		}
		for c := range 16 {
			if impl.FieldMul(product, c) != impl.FieldMul(a, impl.FieldMul(b, c)) {
				t.Fatalf("the product of %d, %d and %d is not associative", a, b, c)
			}
			if impl.FieldMul(impl.FieldAdd(a, b), c) != impl.FieldAdd(impl.FieldMul(a, c), impl.FieldMul(b, c)) {
				t.Fatalf("the product of %d plus %d with %d is not distributive", a, b, c)
			}
		}
	})
}

// Promise 4: 1 changes nothing, and 0 leaves nothing.
func TestProductsWithZeroAndOne(t *testing.T) {
	for a := range 16 {
		if impl.FieldMul(a, 1) != a || impl.FieldMul(1, a) != a {
			t.Fatalf("%d times 1 is %d, and %d in the other order", a, impl.FieldMul(a, 1), impl.FieldMul(1, a))
		}
		if impl.FieldMul(a, 0) != 0 || impl.FieldMul(0, a) != 0 {
			t.Fatalf("%d times 0 is %d, and %d in the other order", a, impl.FieldMul(a, 0), impl.FieldMul(0, a))
		}
	}
}

// Promise 43.
func TestSumsAreExclusive(t *testing.T) {
	eachPair(func(a int, b int) {
		sum := impl.FieldAdd(a, b)
		if sum != a^b || sum != impl.FieldAdd(b, a) {
			t.Fatalf("%d plus %d is %d, and %d in the other order", a, b, sum, impl.FieldAdd(b, a))
		}
		if back := impl.FieldAdd(sum, b); back != a {
			t.Fatalf("%d plus %d twice is %d", a, b, back)
		}
		if (sum == 0) != (a == b) {
			t.Fatalf("%d plus %d is %d", a, b, sum)
		}
	})
}

// Promise 44.
func TestInversesInvert(t *testing.T) {
	for a := 1; a < 16; a++ {
		inverse := impl.FieldInverse(a)
		if inverse < 1 || inverse > 15 || impl.FieldMul(a, inverse) != 1 || dividedProduct(a, inverse) != 1 {
			t.Fatalf("the inverse of %d is %d", a, inverse)
		}
		if back := impl.FieldInverse(inverse); back != a {
			t.Fatalf("the inverse of the inverse of %d is %d", a, back)
		}
	}
	if impl.FieldInverse(1) != 1 || impl.FieldInverse(2) != 9 {
		t.Fatalf("the inverses of 1 and 2 are %d and %d", impl.FieldInverse(1), impl.FieldInverse(2))
	}
}

// The element 0 has no inverse; the inverse of its inverse is 0, too.
func TestInverseOfOtherNumbers(t *testing.T) {
	for _, number := range append(notElements(), 0) {
		if got := impl.FieldInverse(number); got != 0 {
			t.Fatalf("the inverse of %d is %d", number, got)
		}
	}
}

// Promise 45, with all elements and exponents.
func TestPowersAddExponents(t *testing.T) {
	for a := range 16 {
		want := 1
		for n := range 1001 {
			power := impl.FieldPower(a, n)
			if power != want {
				t.Fatalf("power %d of %d is %d, want %d", n, a, power, want)
			}
			want = dividedProduct(want, a)
			if n < 1000 && impl.FieldPower(a, n+1) != impl.FieldMul(power, a) {
				t.Fatalf("power %d of %d is %d, not %d times %d", n+1, a, impl.FieldPower(a, n+1), power, a)
			}
		}
	}
}

// Promise 45.
func TestFifteenthPowersAreOne(t *testing.T) {
	for a := 1; a < 16; a++ {
		for n := 0; n <= 1000; n += 15 {
			if power := impl.FieldPower(a, n); power != 1 {
				t.Fatalf("power %d of %d is %d", n, a, power)
			}
		}
	}
}

func TestPowersAtTheEnds(t *testing.T) {
	for a := range 16 {
		if impl.FieldPower(a, 0) != 1 || impl.FieldPower(a, 1) != a {
			t.Fatalf("the powers 0 and 1 of %d are %d and %d", a, impl.FieldPower(a, 0), impl.FieldPower(a, 1))
		}
		if impl.FieldPower(a, 1000) != repeatedProduct(a, 1000) {
			t.Fatalf("power 1000 of %d is %d", a, impl.FieldPower(a, 1000))
		}
	}
	for n := 1; n <= 1000; n++ {
		if impl.FieldPower(0, n) != 0 || impl.FieldPower(1, n) != 1 {
			t.Fatalf("power %d of 0 is %d, and of 1 %d", n, impl.FieldPower(0, n), impl.FieldPower(1, n))
		}
	}
	if impl.FieldPower(2, 4) != 3 || impl.FieldPower(2, 14) != 9 || impl.FieldPower(3, 2) != 5 {
		t.Fatalf("%d, %d, %d", impl.FieldPower(2, 4), impl.FieldPower(2, 14), impl.FieldPower(3, 2))
	}
}

// Promise 128.
func TestSquaresAdd(t *testing.T) {
	eachPair(func(a int, b int) {
		want := impl.FieldAdd(impl.FieldPower(a, 2), impl.FieldPower(b, 2))
		sum := impl.FieldAdd(a, b)
		if impl.FieldPower(sum, 2) != want || impl.FieldMul(sum, sum) != want || want < 0 {
			t.Fatalf("the square of %d plus %d is %d, want %d", a, b, impl.FieldPower(sum, 2), want)
		}
	})
}

// Promise 129.
func TestTwoGeneratesField(t *testing.T) {
	var exponents [16]int
	for n := range 15 {
		power := impl.FieldPower(2, n)
		if power < 1 || power > 15 {
			t.Fatalf("power %d of 2 is %d", n, power)
		}
		exponents[power]++
	}
	for a := 1; a < 16; a++ {
		if exponents[a] != 1 {
			t.Fatalf("%d is a power of 2 with %d exponents", a, exponents[a])
		}
	}
}

func TestPolynomialExamples(t *testing.T) {
	for x := range 16 {
		wantValue(t, []int{1, 0}, x, x)
		wantValue(t, []int{1, 0, 0}, x, dividedProduct(x, x))
		wantValue(t, append([]int{1}, repeated(0, 14)...), x, repeatedProduct(x, 14))
	}
	wantValue(t, []int{1, 1}, 1, 0)
	wantValue(t, []int{2, 3, 5}, 2, 11)
	// The field is built such that 2 is a zero of x^4 + x + 1.
	wantValue(t, []int{1, 0, 0, 1, 1}, 2, 0)
	wantValue(t, []int{1, 0, 0, 1, 1}, 7, 1)
}

// Promise 46.
func TestValuesAreSumsOfPowers(t *testing.T) {
	somePolynomials(func(list []int) {
		for x := range 16 {
			wantValue(t, list, x, addedPowers(list, x))
		}
		last, sum := 0, 0
		for _, coefficient := range list {
			last, sum = coefficient, impl.FieldAdd(sum, coefficient)
		}
		wantValue(t, list, 0, last)
		wantValue(t, list, 1, sum)
	})
}

// Promise 46, up to exactly 15 coefficients.
func TestFurtherCoefficient(t *testing.T) {
	for length := range 15 {
		for seed := range 20 {
			list := mixedElements(seed, length)
			eachPair(func(x int, coefficient int) {
				want := impl.FieldAdd(impl.FieldMul(impl.PolynomialAt(list, x), x), coefficient)
				if want < 0 {
					t.Fatalf("the value of %v at %d has no product or sum", list, x)
				}
				wantValue(t, append(slices.Clone(list), coefficient), x, want)
			})
		}
	}
}

func TestNoCoefficientAndOne(t *testing.T) {
	for x := range 16 {
		wantValue(t, nil, x, 0)
		wantValue(t, []int{}, x, 0)
		for coefficient := range 16 {
			wantValue(t, []int{coefficient}, x, coefficient)
		}
	}
}

func TestFirstCoefficientsMayBeZero(t *testing.T) {
	for length := range 16 {
		for seed := range 10 {
			list := mixedElements(seed, length)
			for zeros := 1; zeros+length <= 15; zeros++ {
				for x := range 16 {
					wantValue(t, append(repeated(0, zeros), list...), x, addedPowers(list, x))
				}
			}
		}
	}
}

// Promise 115, with all polynomials up to the degree 3.
func TestPolynomialsHaveFewZeros(t *testing.T) {
	for length := 2; length <= 4; length++ {
		eachPolynomial(length, func(list []int) {
			if list[0] != 0 {
				wantFewZeros(t, list)
			}
		})
	}
	for length := 5; length <= 15; length++ {
		for seed := range 300 {
			list := mixedElements(seed, length)
			list[0] = 1 + seed%15
			wantFewZeros(t, list)
		}
	}
}

// Promise 115, with as many zeros as a polynomial of its degree can have.
func TestPolynomialsHaveTheirZeros(t *testing.T) {
	for first := 1; first < 16; first++ {
		for begin := range 16 {
			list := []int{first}
			for degree := 1; degree <= 14; degree++ {
				list = timesFactor(list, (begin+degree)%16)
				if zeros := wantFewZeros(t, list); zeros != degree {
					t.Fatalf("%v is the product of %d factors and has %d zeros", list, degree, zeros)
				}
				wantValue(t, list, (begin+degree)%16, 0)
			}
		}
	}
}

func TestSumsAndProductsOfOtherNumbers(t *testing.T) {
	for _, number := range notElements() {
		for _, other := range append(notElements(), 0, 1, 2, 3, 4, 5, 6, 7, 8, 9, 10, 11, 12, 13, 14, 15) {
			for _, pair := range [][2]int{{number, other}, {other, number}} {
				sum, product := impl.FieldAdd(pair[0], pair[1]), impl.FieldMul(pair[0], pair[1])
				if sum != -1 || product != -1 {
					t.Fatalf("the sum of %v is %d, and the product %d", pair, sum, product)
				}
			}
		}
	}
}

func TestPowersOfOtherNumbers(t *testing.T) {
	for _, number := range notElements() {
		for _, n := range []int{0, 1, 2, 14, 15, 16, 999, 1000, 1001, -1, math.MaxInt, math.MinInt} {
			if power := impl.FieldPower(number, n); power != -1 {
				t.Fatalf("power %d of %d is %d", n, number, power)
			}
		}
	}
}

func TestPowersWithOtherExponents(t *testing.T) {
	for a := range 16 {
		for _, n := range []int{-1, -2, -14, -15, -1000, 1001, 1002, 1005, 1024, 1 << 32, 1<<32 + 1, math.MaxInt, math.MaxInt - 1, math.MinInt, math.MinInt + 1} {
			if power := impl.FieldPower(a, n); power != -1 {
				t.Fatalf("power %d of %d is %d", n, a, power)
			}
		}
	}
}

func TestPolynomialAtOtherNumbers(t *testing.T) {
	for _, number := range notElements() {
		wantValue(t, nil, number, -1)
		for length := range 17 {
			wantValue(t, repeated(0, length), number, -1)
			wantValue(t, mixedElements(1, length), number, -1)
		}
	}
}

// The other coefficients are zeros and the value is taken at 0, too, where a wrong coefficient would not be seen in the result.
func TestPolynomialsWithOtherCoefficients(t *testing.T) {
	for _, number := range notElements() {
		for length := 1; length <= 15; length++ {
			for place := range length {
				for x := range 16 {
					wantValue(t, changed(repeated(0, length), place, number), x, -1)
					wantValue(t, changed(mixedElements(place, length), place, number), x, -1)
				}
			}
		}
		wantValue(t, []int{number, number}, 1, -1)
	}
}

// Zeros in front do not make a longer list valid.
func TestPolynomialsWithTooManyCoefficients(t *testing.T) {
	for _, length := range []int{16, 17, 31, 32, 100, 1024, 1025} {
		for x := range 16 {
			for _, list := range [][]int{repeated(0, length), repeated(1, length), mixedElements(length, length), append(repeated(0, length-1), 1)} {
				wantValue(t, list, x, -1)
			}
		}
	}
}

func TestPolynomialIsNotWritten(t *testing.T) {
	for _, length := range []int{0, 1, 2, 7, 14, 15, 16, 40} {
		for seed := range 5 {
			for _, last := range []int{3, 16, -1} {
				list, whole := guarded(append(mixedElements(seed, length), last), 7)
				before := slices.Clone(whole)
				for _, x := range []int{0, 1, 2, 15, 16, -1} {
					impl.PolynomialAt(list, x)
					impl.PolynomialAt(list[:length], x)
				}
				wantInts(t, "list", whole, before)
			}
		}
	}
}

// The arrays inside the program are the same after every call.
func TestFieldKeepsNoState(t *testing.T) {
	var before []int
	eachPair(func(a int, b int) {
		before = append(before, impl.FieldMul(a, b), impl.FieldPower(a, b), impl.FieldInverse(b))
	})
	for _, number := range notElements() {
		impl.FieldMul(number, 1)
		impl.FieldInverse(number)
		impl.FieldPower(number, 5)
		impl.PolynomialAt([]int{number}, 2)
	}
	var after []int
	eachPair(func(a int, b int) {
		after = append(after, impl.FieldMul(a, b), impl.FieldPower(a, b), impl.FieldInverse(b))
	})
	wantInts(t, "products, powers and inverses", after, before)
}
