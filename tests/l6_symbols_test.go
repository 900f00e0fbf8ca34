package tests

import (
	"slices"
	"testing"

	"loop.example/softwareradio/impl"
)

// modelZeros are the elements at which code words are 0.
func modelZeros() [4]int {
	return [4]int{2, 4, 8, 3}
}

// modelSyndromes computes the syndromes of a word without the program.
func modelSyndromes(word []int) []int {
	var values []int
	for _, zero := range modelZeros() {
		values = append(values, addedPowers(word, zero))
	}
	return values
}

// modelGenerator returns the product of x plus each of the zeros, without the program.
func modelGenerator() []int {
	list := []int{1}
	for _, zero := range modelZeros() {
		list = timesFactor(list, zero)
	}
	return list
}

// modelWord codes data without the program: it subtracts multiples of the generator until only check symbols are left.
func modelWord(data []int) []int {
	rest := append(slices.Clone(data), repeated(0, 4)...)
	for at := range data {
		factor := rest[at]
		for k, coefficient := range modelGenerator() {
			rest[at+k] ^= dividedProduct(factor, coefficient)
		}
	}
	return append(slices.Clone(data), rest[11:]...)
}

// sumOf returns the sum of two lists of elements, place by place.
func sumOf(a []int, b []int) []int {
	sum := slices.Clone(a)
	for k := range sum {
		sum[k] ^= b[k]
	}
	return sum
}

// withWrong returns a copy of a word with other symbols: a value other than 0 is added at a place.
func withWrong(word []int, wrong ...[2]int) []int {
	word = slices.Clone(word)
	for _, one := range wrong {
		word[one[0]] ^= one[1]
	}
	return word
}

// someData are zeros, ones, fifteens, lists with one symbol other than 0, and mixed lists.
func someData() [][]int {
	lists := [][]int{repeated(0, 11), repeated(1, 11), repeated(15, 11)}
	for place := range 11 {
		for symbol := 1; symbol < 16; symbol++ {
			lists = append(lists, changed(repeated(0, 11), place, symbol))
		}
	}
	for seed := range 200 {
		lists = append(lists, mixedElements(seed, 11))
	}
	return lists
}

// fewWords are code words for tests that change each of them in many ways.
func fewWords() [][]int {
	words := [][]int{modelWord(repeated(0, 11)), modelWord(repeated(15, 11)), modelWord(changed(repeated(0, 11), 10, 1))}
	for seed := range 5 {
		words = append(words, modelWord(mixedElements(seed, 11)))
	}
	return words
}

// eachSingle calls a test with every place and every value of one error.
func eachSingle(test func(wrong [2]int)) {
	for place := range 15 {
		for value := 1; value < 16; value++ {
			test([2]int{place, value})
		}
	}
}

// eachDouble calls a test with all errors in two different places, the lower one first.
func eachDouble(test func(first [2]int, second [2]int)) {
	eachSingle(func(first [2]int) {
		eachSingle(func(second [2]int) {
			if first[0] < second[0] {
				test(first, second)
			}
		})
	})
}

func wantDecodedWord(t *testing.T, word []int, want []int) {
	t.Helper()
	got, ok := impl.DecodeWord(word)
	if !ok || !slices.Equal(got, want) {
		t.Fatalf("%v is decoded to %v, %v, want %v", word, got, ok, want)
	}
}

func wantNotDecoded(t *testing.T, word []int) {
	t.Helper()
	if got, ok := impl.DecodeWord(word); ok || len(got) != 0 {
		t.Fatalf("%v is decoded to %v, %v", word, got, ok)
	}
}

func wantWordDistance(t *testing.T, a []int, b []int, want int) {
	t.Helper()
	if got := impl.WordDistance(a, b); got != want {
		t.Fatalf("the distance of %v and %v is %d, want %d", a, b, got, want)
	}
}

// wantNearCodeWord checks promise 5 for any 15 symbols: what is returned is a code word in at most two other places.
func wantNearCodeWord(t *testing.T, word []int) {
	t.Helper()
	got, ok := impl.DecodeWord(word)
	if !ok {
		wantInts(t, "no code word", got, nil)
		return
	}
	if len(got) != 15 || differences(got, word) > 2 || impl.WordDistance(got, word) != differences(got, word) {
		t.Fatalf("%v is decoded to %v", word, got)
	}
	wantInts(t, "syndromes of the decoded word", impl.WordSyndromes(got), repeated(0, 4))
	wantInts(t, "decoded word", impl.EncodeWord(got[:11]), got)
}

func TestWordSizes(t *testing.T) {
	if impl.WordSize != 15 || impl.DataSize != 11 {
		t.Fatal(impl.WordSize, impl.DataSize)
	}
}

// The generator is the code word of a single last 1; the other words are computed by hand from it.
func TestEncodeWordExamples(t *testing.T) {
	wantInts(t, "zeros", impl.EncodeWord(repeated(0, 11)), repeated(0, 15))
	wantInts(t, "last 1", impl.EncodeWord(changed(repeated(0, 11), 10, 1)), []int{0, 0, 0, 0, 0, 0, 0, 0, 0, 0, 1, 13, 12, 8, 7})
	wantInts(t, "last 2", impl.EncodeWord(changed(repeated(0, 11), 10, 2)), []int{0, 0, 0, 0, 0, 0, 0, 0, 0, 0, 2, 9, 11, 3, 14})
	// The generator times x.
	wantInts(t, "1 and 13", impl.EncodeWord(append(repeated(0, 9), 1, 13)), append(repeated(0, 9), 1, 13, 12, 8, 7, 0))
	// A polynomial with equal coefficients is 0 at every element other than 0 and 1.
	for symbol := range 16 {
		wantInts(t, "equal symbols", impl.EncodeWord(repeated(symbol, 11)), repeated(symbol, 15))
	}
}

// Promise 47.
func TestCodeWordsHaveZeros(t *testing.T) {
	for _, data := range someData() {
		word := impl.EncodeWord(data)
		wantInts(t, "code word", word, modelWord(data))
		wantInts(t, "data of the code word", word[:11], data)
		wantInts(t, "values of the code word", modelSyndromes(word), repeated(0, 4))
		wantInts(t, "syndromes of the code word", impl.WordSyndromes(word), repeated(0, 4))
		for _, zero := range modelZeros() {
			wantValue(t, word, zero, 0)
		}
	}
}

// Promise 47.
func TestSymbolCodeIsLinear(t *testing.T) {
	lists := someData()
	for _, a := range lists {
		for _, b := range lists {
			sum := sumOf(impl.EncodeWord(a), impl.EncodeWord(b))
			wantInts(t, "code word of the sum", impl.EncodeWord(sumOf(a, b)), sum)
		}
	}
}

// The code is linear over the field, not only for sums.
func TestMultiplesOfCodeWords(t *testing.T) {
	for _, data := range someData() {
		word := impl.EncodeWord(data)
		for factor := range 16 {
			multiple, want := slices.Clone(data), slices.Clone(word)
			for k := range multiple {
				multiple[k] = dividedProduct(factor, multiple[k])
			}
			for k := range want {
				want[k] = dividedProduct(factor, want[k])
			}
			wantInts(t, "code word of the multiple", impl.EncodeWord(multiple), want)
		}
	}
}

func TestSyndromesAreValues(t *testing.T) {
	for seed := range 500 {
		word := mixedElements(seed, 15)
		values := impl.WordSyndromes(word)
		wantInts(t, "syndromes", values, modelSyndromes(word))
		for k, zero := range modelZeros() {
			wantValue(t, word, zero, values[k])
		}
	}
	wantInts(t, "last 1", impl.WordSyndromes(append(repeated(0, 14), 1)), []int{1, 1, 1, 1})
	wantInts(t, "1 before it", impl.WordSyndromes(append(repeated(0, 13), 1, 0)), []int{2, 4, 8, 3})
	wantInts(t, "first 1", impl.WordSyndromes(append([]int{1}, repeated(0, 14)...)), []int{9, 13, 15, 14})
	wantInts(t, "zeros", impl.WordSyndromes(repeated(0, 15)), repeated(0, 4))
}

// The syndromes of a word with errors are those of the errors alone.
func TestSyndromesOfErrors(t *testing.T) {
	for _, word := range fewWords() {
		eachSingle(func(wrong [2]int) {
			want := modelSyndromes(withWrong(repeated(0, 15), wrong))
			wantInts(t, "syndromes", impl.WordSyndromes(withWrong(word, wrong)), want)
			if slices.Contains(want, 0) {
				t.Fatalf("the error %v has the syndromes %v", wrong, want)
			}
		})
	}
}

// Promise 48, with all check symbols behind the same data.
func TestSyndromesRecognizeCodeWords(t *testing.T) {
	for _, data := range [][]int{repeated(0, 11), mixedElements(1, 11)} {
		code := impl.EncodeWord(data)
		recognized := 0
		eachPolynomial(4, func(check []int) {
			zeros := slices.Equal(impl.WordSyndromes(slices.Concat(data, check)), repeated(0, 4))
			if zeros != slices.Equal(check, code[11:]) {
				t.Fatalf("the syndromes of %v with the check symbols %v are 0: %v", data, check, zeros)
			}
			if zeros {
				recognized++
			}
		})
		if recognized != 1 {
			t.Fatalf("%d check symbols of %v are recognized", recognized, data)
		}
	}
}

// Promise 48, with words that are near to code words and with others.
func TestSyndromesOfOtherWords(t *testing.T) {
	check := func(word []int) {
		syndromes := impl.WordSyndromes(word)
		if len(syndromes) != 4 {
			t.Fatalf("the syndromes of %v are %v", word, syndromes)
		}
		code := impl.EncodeWord(word[:11])
		if slices.Equal(syndromes, repeated(0, 4)) != slices.Equal(code[11:], word[11:]) {
			t.Fatalf("%v has the syndromes %v, and its data the code word %v", word, syndromes, code)
		}
	}
	for _, word := range fewWords() {
		check(word)
		eachSingle(func(wrong [2]int) { check(withWrong(word, wrong)) })
		eachDouble(func(first [2]int, second [2]int) { check(withWrong(word, first, second)) })
	}
	for seed := range 500 {
		check(mixedElements(seed, 15))
	}
}

// Promise 49.
func TestWordDistances(t *testing.T) {
	for seed := range 100 {
		a := mixedElements(seed, 15)
		wantWordDistance(t, a, a, 0)
		wantWordDistance(t, a, slices.Clone(a), 0)
		wantWordDistance(t, a, sumOf(a, repeated(1+seed%15, 15)), 15)
		for other := range 100 {
			b := mixedElements(1000+other, 15)
			wantWordDistance(t, a, b, differences(a, b))
			wantWordDistance(t, b, a, differences(a, b))
		}
		b := slices.Clone(a)
		for place := range 15 {
			b[place] ^= 1 + int(mixed(seed, place)%15)
			wantWordDistance(t, a, b, place+1)
			wantWordDistance(t, b, a, place+1)
		}
	}
	eachSingle(func(wrong [2]int) {
		wantWordDistance(t, repeated(0, 15), withWrong(repeated(0, 15), wrong), 1)
	})
}

// Promise 49: the code words of the data of any two lists.
func TestCodeWordsDifferInFivePlaces(t *testing.T) {
	lists := someData()
	for _, a := range lists {
		for _, b := range lists {
			distance := impl.WordDistance(impl.EncodeWord(a), impl.EncodeWord(b))
			if slices.Equal(a, b) {
				if distance != 0 {
					t.Fatalf("%v has a distance %d from itself", a, distance)
				}
			} else if distance < 5 || distance > 15 {
				t.Fatalf("the code words of %v and %v have the distance %d", a, b, distance)
			}
		}
	}
}

// Promise 49, with data that differ in up to three places, which need two check symbols or more that differ.
func TestCodeWordsOfNearData(t *testing.T) {
	data := mixedElements(3, 11)
	word := impl.EncodeWord(data)
	for place := range 11 {
		for second := range place + 1 {
			for third := range second + 1 {
				eachPair(func(a int, b int) {
					other := withWrong(data, [2]int{place, a}, [2]int{second, b}, [2]int{third, 1})
					distance := impl.WordDistance(word, impl.EncodeWord(other))
					if distance < 5 && !slices.Equal(data, other) {
						t.Fatalf("the code words of %v and %v have the distance %d", data, other, distance)
					}
				})
			}
		}
	}
	wantWordDistance(t, impl.EncodeWord(repeated(0, 11)), impl.EncodeWord(changed(repeated(0, 11), 10, 1)), 5)
}

// Promise 5: without an error.
func TestCodeWordsAreDecodedToThemselves(t *testing.T) {
	for _, data := range someData() {
		word := impl.EncodeWord(data)
		wantDecodedWord(t, word, word)
	}
}

// Promise 131, with every place and every value.
func TestOneWrongSymbolIsCorrected(t *testing.T) {
	for _, data := range someData() {
		word := impl.EncodeWord(data)
		eachSingle(func(wrong [2]int) {
			wantDecodedWord(t, withWrong(word, wrong), word)
		})
	}
}

// Promise 5, with any two places and any two values.
func TestTwoWrongSymbolsAreCorrected(t *testing.T) {
	for _, word := range fewWords() {
		eachDouble(func(first [2]int, second [2]int) {
			wantDecodedWord(t, withWrong(word, first, second), word)
		})
	}
}

// Promise 5, with neighbouring places, the first and the last place, and the check symbols, for many code words.
func TestTwoErrorsInNamedPlaces(t *testing.T) {
	places := [][2]int{{0, 14}, {11, 13}, {11, 14}, {12, 14}, {0, 11}, {10, 14}}
	for place := range 14 {
		places = append(places, [2]int{place, place + 1})
	}
	for _, data := range someData() {
		word := impl.EncodeWord(data)
		for _, pair := range places {
			for value := 1; value < 16; value++ {
				for _, other := range []int{value, 16 - value, 1, 15} {
					wantDecodedWord(t, withWrong(word, [2]int{pair[0], value}, [2]int{pair[1], other}), word)
				}
			}
		}
	}
}

// nearWords has, for the syndromes of no error, of one and of two errors, the errors as a list of 15 symbols, without the program. The syndromes of two errors are the sums of those of one.
func nearWords(t *testing.T) map[[4]int][]int {
	t.Helper()
	single := map[[2]int][4]int{}
	eachSingle(func(wrong [2]int) {
		single[wrong] = [4]int(modelSyndromes(withWrong(repeated(0, 15), wrong)))
	})
	near := map[[4]int][]int{{}: repeated(0, 15)}
	for wrong, syndromes := range single {
		near[syndromes] = withWrong(repeated(0, 15), wrong)
	}
	eachDouble(func(first [2]int, second [2]int) {
		syndromes := [4]int(sumOf(sliceOf(single[first]), sliceOf(single[second])))
		near[syndromes] = withWrong(repeated(0, 15), first, second)
	})
	if len(near) != 1+15*15+105*15*15 {
		t.Fatalf("%d syndromes belong to at most two errors", len(near))
	}
	return near
}

func sliceOf(values [4]int) []int {
	return values[:]
}

// Promise 5, with all syndromes there are: one for each list of four check symbols. No code word is near to most of them.
func TestAllSyndromesAreDecoded(t *testing.T) {
	near := nearWords(t)
	for _, data := range [][]int{repeated(0, 11), mixedElements(7, 11)} {
		code := modelWord(data)
		decoded := 0
		eachPolynomial(4, func(check []int) {
			word := slices.Concat(data, sumOf(code[11:], check))
			wrong, ok := near[[4]int(modelSyndromes(word))]
			if !ok {
				wantNotDecoded(t, word)
				return
			}
			decoded++
			wantDecodedWord(t, word, sumOf(word, wrong))
			wantNearCodeWord(t, word)
		})
		if decoded != len(near) {
			t.Fatalf("%d of %d words are near to a code word", decoded, len(near))
		}
	}
}

// Promise 5, with lists that were not made from code words.
func TestDecodedWordsAreNear(t *testing.T) {
	for seed := range 5000 {
		wantNearCodeWord(t, mixedElements(seed, 15))
	}
}

// Promise 116, with any three places.
func TestThreeWrongSymbolsAreTooMany(t *testing.T) {
	refused, other := 0, 0
	for seed, code := range fewWords() {
		for third := range 15 {
			for second := range third {
				for first := range second {
					for try := range 40 {
						values := mixedElements(seed*1000+try, 15)
						word := withWrong(code, [2]int{first, 1 + values[0]%15}, [2]int{second, 1 + values[1]%15}, [2]int{third, 1 + values[2]%15})
						got, ok := impl.DecodeWord(word)
						if slices.Equal(got, code) {
							t.Fatalf("%v is decoded to %v", word, got)
						}
						wantNearCodeWord(t, word)
						if ok {
							other++
						} else {
							refused++
						}
					}
				}
			}
		}
	}
	if refused == 0 || other == 0 {
		t.Fatalf("%d lists with three errors are refused, and %d decoded to other words", refused, other)
	}
}

// Promise 116, with neighbouring places and all values.
func TestThreeNeighbouringErrors(t *testing.T) {
	code := modelWord(mixedElements(2, 11))
	for place := range 13 {
		eachPair(func(a int, b int) {
			for c := 1; c < 16 && a*b != 0; c++ {
				word := withWrong(code, [2]int{place, a}, [2]int{place + 1, b}, [2]int{place + 2, c})
				if got, _ := impl.DecodeWord(word); slices.Equal(got, code) {
					t.Fatalf("%v is decoded to %v", word, got)
				}
				wantNearCodeWord(t, word)
			}
		})
	}
}

// Promise 116: three steps of five towards another code word are decoded to that word.
func TestThreeErrorsTowardsAnotherWord(t *testing.T) {
	generator := modelWord(changed(repeated(0, 11), 10, 1))
	for _, code := range fewWords() {
		other := sumOf(code, generator)
		for keep := 10; keep < 15; keep++ {
			for second := 10; second < keep; second++ {
				word := slices.Clone(other)
				word[keep], word[second] = code[keep], code[second]
				wantWordDistance(t, word, code, 3)
				wantDecodedWord(t, word, other)
			}
		}
	}
}

// Syndromes that are 0 in some places, which no one or two errors lead to.
func TestWordsThatNoCodeWordIsNear(t *testing.T) {
	found := map[[4]bool]bool{}
	near := nearWords(t)
	eachPolynomial(4, func(check []int) {
		word := append(repeated(0, 11), check...)
		syndromes := [4]int(modelSyndromes(word))
		if _, ok := near[syndromes]; !ok {
			wantNotDecoded(t, word)
			found[[4]bool{syndromes[0] == 0, syndromes[1] == 0, syndromes[2] == 0, syndromes[3] == 0}] = true
		}
	})
	for _, zeros := range [][4]bool{{true, true, true, false}, {true, true, false, true}, {true, false, true, true}, {false, true, true, true}, {true, true, false, false}, {false, false, false, false}} {
		if !found[zeros] {
			t.Fatalf("no words with syndromes that are 0 as in %v", zeros)
		}
	}
}

// Promise 130, with all fifteen turns.
func TestSymbolCodeIsCyclic(t *testing.T) {
	for _, data := range someData() {
		word := impl.EncodeWord(data)
		turned := word
		for range 15 {
			turned = append([]int{turned[14]}, turned[:14]...)
			wantInts(t, "syndromes of the turned word", impl.WordSyndromes(turned), repeated(0, 4))
			wantInts(t, "turned word", impl.EncodeWord(turned[:11]), turned)
			wantDecodedWord(t, turned, turned)
		}
		wantInts(t, "word after all turns", turned, word)
	}
}

func wantRefusedSymbols(t *testing.T, list []int) {
	t.Helper()
	wantInts(t, "WordSyndromes", impl.WordSyndromes(list), nil)
	wantNotDecoded(t, list)
	word := modelWord(repeated(3, 11))
	wantWordDistance(t, list, word, -1)
	wantWordDistance(t, word, list, -1)
	wantWordDistance(t, list, list, -1)
}

func TestSymbolsOfOtherLengths(t *testing.T) {
	for length := range 100 {
		for _, list := range [][]int{repeated(0, length), repeated(1, length), repeated(15, length), mixedElements(length, length)} {
			if length != 11 {
				wantInts(t, "EncodeWord", impl.EncodeWord(list), nil)
			}
			if length != 15 {
				wantRefusedSymbols(t, list)
			}
		}
	}
	for _, length := range []int{256, 267, 271, 1024, 65536 + 11, 65536 + 15} {
		wantInts(t, "EncodeWord", impl.EncodeWord(repeated(0, length)), nil)
		wantRefusedSymbols(t, repeated(0, length))
	}
}

func TestNoSymbols(t *testing.T) {
	for _, empty := range [][]int{nil, {}} {
		wantInts(t, "EncodeWord", impl.EncodeWord(empty), nil)
		wantRefusedSymbols(t, empty)
		wantWordDistance(t, empty, nil, -1)
	}
}

func TestSymbolsThatAreNotElements(t *testing.T) {
	for _, number := range notElements() {
		for place := range 15 {
			for _, list := range [][]int{repeated(0, 15), repeated(15, 15), modelWord(mixedElements(place, 11)), mixedElements(place, 15)} {
				wantRefusedSymbols(t, changed(list, place, number))
				if place < 11 {
					wantInts(t, "EncodeWord", impl.EncodeWord(changed(list[:11], place, number)), nil)
				}
			}
		}
		wantRefusedSymbols(t, repeated(number, 15))
		wantInts(t, "EncodeWord", impl.EncodeWord(repeated(number, 11)), nil)
	}
}

// The distance is refused before any place is compared.
func TestDistanceOfOneValidList(t *testing.T) {
	word := mixedElements(4, 15)
	for _, other := range [][]int{nil, {}, word[:14], word[1:], word[:11], append(slices.Clone(word), 0), changed(word, 0, -1), changed(word, 14, 16), changed(word, 7, 1<<32+word[7])} {
		wantWordDistance(t, word, other, -1)
		wantWordDistance(t, other, word, -1)
		wantWordDistance(t, other, other, -1)
		wantWordDistance(t, other, slices.Clone(other), -1)
	}
	wantWordDistance(t, word, word, 0)
}

// An error that would be corrected does not make a list with another number valid.
func TestInvalidWordsAreNotCorrected(t *testing.T) {
	for _, code := range fewWords() {
		for place := range 15 {
			for _, number := range []int{code[place] + 16, code[place] - 16, code[place] | 1<<32, -1 - code[place]} {
				wantNotDecoded(t, changed(code, place, number))
				wantNotDecoded(t, withWrong(changed(code, place, number), [2]int{(place + 1) % 15, 5}))
			}
		}
	}
}

func TestSymbolArgumentsAreNotWritten(t *testing.T) {
	for seed, code := range fewWords() {
		lists := [][]int{
			code, withWrong(code, [2]int{seed, 3}), withWrong(code, [2]int{0, 3}, [2]int{14, 5}), withWrong(code, [2]int{4, 1}, [2]int{5, 2}),
			mixedElements(seed, 15), changed(code, 14, 16), changed(code, 0, -1), code[:14], append(slices.Clone(code), 1), nil,
		}
		for _, list := range lists {
			word, whole := guarded(list, 7)
			before := slices.Clone(whole)
			overwrite(impl.WordSyndromes(word), 9)
			impl.WordDistance(word, code)
			impl.WordDistance(code, word)
			corrected, _ := impl.DecodeWord(word)
			overwrite(corrected, 9)
			overwrite(impl.EncodeWord(word[:min(11, len(word))]), 9)
			overwrite(impl.EncodeWord(word), 9)
			wantInts(t, "list", whole, before)
		}
	}
}

func TestSymbolResultsAreNewMemory(t *testing.T) {
	for _, code := range fewWords() {
		for _, wrong := range [][]int{code, withWrong(code, [2]int{3, 7}), withWrong(code, [2]int{3, 7}, [2]int{4, 1})} {
			data, word := slices.Clone(code[:11]), slices.Clone(wrong)
			coded, codedAgain := impl.EncodeWord(data), impl.EncodeWord(data)
			syndromes, syndromesAgain := impl.WordSyndromes(word), impl.WordSyndromes(word)
			corrected, _ := impl.DecodeWord(word)
			correctedAgain, _ := impl.DecodeWord(word)
			for _, other := range [][]int{data, word, codedAgain, syndromesAgain, correctedAgain} {
				overwrite(other, 9)
			}
			wantInts(t, "EncodeWord", coded, code)
			wantInts(t, "WordSyndromes", syndromes, modelSyndromes(wrong))
			wantInts(t, "DecodeWord", corrected, code)
		}
	}
}

// The arrays inside the program are the same after every call, also if results are written to.
func TestSymbolCodeKeepsNoState(t *testing.T) {
	for seed, code := range fewWords() {
		overwrite(impl.EncodeWord(code[:11]), 9)
		overwrite(impl.WordSyndromes(code), 9)
		overwrite(impl.WordSyndromes(mixedElements(seed, 15)), 9)
		corrected, _ := impl.DecodeWord(withWrong(code, [2]int{1, 2}, [2]int{2, 1}))
		overwrite(corrected, 9)
		impl.DecodeWord(repeated(16, 15))
		wantInts(t, "EncodeWord", impl.EncodeWord(code[:11]), code)
		wantInts(t, "WordSyndromes", impl.WordSyndromes(mixedElements(seed, 15)), modelSyndromes(mixedElements(seed, 15)))
		wantDecodedWord(t, withWrong(code, [2]int{1, 2}, [2]int{2, 1}), code)
	}
}
