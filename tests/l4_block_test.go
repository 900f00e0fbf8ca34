package tests

import (
	"slices"
	"testing"

	"loop.example/softwareradio/impl"
)

// codeWords are all code words, in the order of the numbers whose digits are the bits that they code.
func codeWords() [][]int {
	return [][]int{
		{0, 0, 0, 0, 0, 0, 0}, {1, 1, 0, 1, 0, 0, 1}, {0, 1, 0, 1, 0, 1, 0}, {1, 0, 0, 0, 0, 1, 1},
		{1, 0, 0, 1, 1, 0, 0}, {0, 1, 0, 0, 1, 0, 1}, {1, 1, 0, 0, 1, 1, 0}, {0, 0, 0, 1, 1, 1, 1},
		{1, 1, 1, 0, 0, 0, 0}, {0, 0, 1, 1, 0, 0, 1}, {1, 0, 1, 1, 0, 1, 0}, {0, 1, 1, 0, 0, 1, 1},
		{0, 1, 1, 1, 1, 0, 0}, {1, 0, 1, 0, 1, 0, 1}, {0, 0, 1, 0, 1, 1, 0}, {1, 1, 1, 1, 1, 1, 1},
	}
}

// eachNibble calls a test with every list of four bits and its code word.
func eachNibble(test func(bits []int, word []int)) {
	for number, word := range codeWords() {
		test(digits(number, 4), word)
	}
}

// eachWord calls a test with every list of seven bits.
func eachWord(test func(word []int)) {
	for number := range 128 {
		test(digits(number, 7))
	}
}

// nearest finds, without the program, the bits whose code word differs from seven bits in one place at most, and the number, counted from 1, of that place, or 0.
func nearest(t *testing.T, word []int) ([]int, int) {
	t.Helper()
	var found []int
	place := 0
	eachNibble(func(bits []int, code []int) {
		if differences(code, word) > 1 {
			return
		}
		if found != nil {
			t.Fatalf("%v is near to the code words of %v and of %v", word, found, bits)
		}
		found = bits
		for k := range code {
			if code[k] != word[k] {
				place = k + 1
			}
		}
	})
	if found == nil {
		t.Fatalf("%v is near to no code word", word)
	}
	return found, place
}

// inverted returns a copy of a list with the bits at some places inverted.
func inverted(list []int, places ...int) []int {
	list = slices.Clone(list)
	for _, place := range places {
		list[place] = 1 - list[place]
	}
	return list
}

// modelBlocks codes a list without the program.
func modelBlocks(bits []int) []int {
	var coded []int
	for at := 0; at < len(bits); at += 4 {
		number := 8*bits[at] + 4*bits[at+1] + 2*bits[at+2] + bits[at+3]
		coded = append(coded, codeWords()[number]...)
	}
	return coded
}

// withErrors returns a list with one bit of every seven inverted, at a place that depends on the seed.
func withErrors(seed int, coded []int) []int {
	coded = slices.Clone(coded)
	for at := 0; at < len(coded); at += 7 {
		place := at + int(mixed(seed, at)%7)
		coded[place] = 1 - coded[place]
	}
	return coded
}

// blockCounts are no blocks, one, some, and as many as are coded at once.
func blockCounts() []int {
	return []int{0, 1, 2, 3, 4, 5, 7, 8, 16, 17, 31, 64, 100, 127, 128}
}

func wantDecodedBlocks(t *testing.T, list []int, want []int, corrections int) {
	t.Helper()
	bits, count := impl.DecodeBlocks(list)
	wantInts(t, "decoded blocks", bits, want)
	if count != corrections {
		t.Fatalf("%v is decoded with %d corrections, want %d", list, count, corrections)
	}
}

func TestEncodeNibbleIsSums(t *testing.T) {
	wantInts(t, "1011", impl.EncodeNibble([]int{1, 0, 1, 1}), []int{0, 1, 1, 0, 0, 1, 1})
	eachNibble(func(bits []int, word []int) {
		wantInts(t, "code word", impl.EncodeNibble(bits), word)
		a, b, c, d := bits[0], bits[1], bits[2], bits[3]
		wantInts(t, "sums", word, []int{(a + b + d) % 2, (a + c + d) % 2, a, (b + c + d) % 2, b, c, d})
	})
}

// Promise 39.
func TestCodeWordsDifferInThreePlaces(t *testing.T) {
	eachNibble(func(bits []int, _ []int) {
		word := impl.EncodeNibble(bits)
		if syndrome := impl.SyndromeOf(word); syndrome != 0 {
			t.Fatalf("the code word of %v has the syndrome %d", bits, syndrome)
		}
		back, wrong := impl.DecodeNibble(word)
		wantInts(t, "decoded code word", back, bits)
		if wrong {
			t.Fatalf("a bit of the code word of %v was inverted", bits)
		}
		eachNibble(func(other []int, _ []int) {
			if distance := impl.HammingDistance(word, impl.EncodeNibble(other)); !slices.Equal(bits, other) && distance < 3 {
				t.Fatalf("the code words of %v and %v have the distance %d", bits, other, distance)
			}
		})
	})
}

// Promise 40.
func TestSyndromeIsPlaceOfError(t *testing.T) {
	eachWord(func(word []int) {
		syndrome := impl.SyndromeOf(word)
		sum := 0
		for k, bit := range word {
			if bit == 1 {
				sum ^= k + 1
			}
		}
		_, place := nearest(t, word)
		if syndrome != sum || syndrome != place {
			t.Fatalf("%v has the syndrome %d, the sum %d, and the error in %d", word, syndrome, sum, place)
		}
		if syndrome == 0 {
			return
		}
		if after := impl.SyndromeOf(inverted(word, syndrome-1)); after != 0 {
			t.Fatalf("%v corrected in %d has the syndrome %d", word, syndrome, after)
		}
	})
}

// Promise 3.
func TestOneErrorIsCorrected(t *testing.T) {
	eachWord(func(word []int) {
		bits, wrong := impl.DecodeNibble(word)
		if len(bits) != 4 || !impl.BitsValid(bits) {
			t.Fatalf("%v is decoded to %v", word, bits)
		}
		distance := impl.HammingDistance(impl.EncodeNibble(bits), word)
		if distance < 0 || distance > 1 || wrong != (distance == 1) {
			t.Fatalf("%v is decoded to %v, %v with the distance %d", word, bits, wrong, distance)
		}
		want, _ := nearest(t, word)
		wantInts(t, "nearest bits", bits, want)
	})
}

// Promises 3 and 40, with an error in each place of each code word: the places 1, 2 and 4 have check bits.
func TestErrorInEachPlace(t *testing.T) {
	eachNibble(func(bits []int, word []int) {
		for place := range word {
			wrong := inverted(word, place)
			if syndrome := impl.SyndromeOf(wrong); syndrome != place+1 {
				t.Fatalf("%v with an error in place %d has the syndrome %d", word, place+1, syndrome)
			}
			back, corrected := impl.DecodeNibble(wrong)
			wantInts(t, "corrected bits", back, bits)
			if !corrected {
				t.Fatalf("the error in place %d of %v was not corrected", place+1, word)
			}
			wantDecodedBlocks(t, wrong, bits, 1)
		}
	})
}

// Promise 126.
func TestBlockCodeIsLinear(t *testing.T) {
	eachNibble(func(a []int, _ []int) {
		eachNibble(func(b []int, _ []int) {
			sum := impl.AddBits(impl.EncodeNibble(a), impl.EncodeNibble(b))
			if len(sum) != 7 {
				t.Fatalf("the code words of %v and %v have the sum %v", a, b, sum)
			}
			wantInts(t, "code word of the sum", impl.EncodeNibble(impl.AddBits(a, b)), sum)
		})
	})
}

// Promise 127.
func TestTwoErrorsAreTooMany(t *testing.T) {
	eachNibble(func(bits []int, word []int) {
		for second := range word {
			for first := range second {
				back, corrected := impl.DecodeNibble(inverted(word, first, second))
				if len(back) != 4 || slices.Equal(back, bits) || !corrected {
					t.Fatalf("%v with errors at %d and %d is decoded to %v, %v", word, first, second, back, corrected)
				}
			}
		}
	})
}

// Promise 41.
func TestBlocksAreCodedOneByOne(t *testing.T) {
	for _, blocks := range blockCounts() {
		for _, bits := range [][]int{mixedBits(blocks, 4*blocks), repeated(0, 4*blocks), repeated(1, 4*blocks)} {
			coded := impl.EncodeBlocks(bits)
			if len(coded) != 7*blocks {
				t.Fatalf("%d blocks are coded with %d bits", blocks, len(coded))
			}
			wantInts(t, "coded blocks", coded, modelBlocks(bits))
			wantDecodedBlocks(t, coded, bits, 0)
			for cut := 0; cut <= len(bits); cut += 4 {
				parts := append(impl.EncodeBlocks(bits[:cut]), impl.EncodeBlocks(bits[cut:])...)
				wantInts(t, "two parts", parts, coded)
			}
		}
	}
}

// Promises 41 and 42, with every block among others.
func TestEveryBlockAtEveryPlace(t *testing.T) {
	for _, blocks := range []int{1, 2, 3, 9, 128} {
		for at := range blocks {
			eachNibble(func(bits []int, word []int) {
				list, coded := mixedBits(at, 4*blocks), modelBlocks(mixedBits(at, 4*blocks))
				copy(list[4*at:], bits)
				copy(coded[7*at:], word)
				wantInts(t, "coded blocks", impl.EncodeBlocks(list), coded)
				for place := 7 * at; place < 7*at+7; place++ {
					wantDecodedBlocks(t, inverted(coded, place), list, 1)
				}
			})
		}
	}
}

// Promise 42, with all pairs of blocks.
func TestPairsOfBlocks(t *testing.T) {
	eachWord(func(first []int) {
		eachWord(func(second []int) {
			wantCorrections(t, slices.Concat(first, second))
		})
	})
}

// Promise 42, with lists of any number of blocks.
func TestCorrectionsAreDistance(t *testing.T) {
	for _, blocks := range blockCounts() {
		for seed := range 20 {
			wantCorrections(t, mixedBits(seed, 7*blocks))
		}
		wantCorrections(t, repeated(0, 7*blocks))
		wantCorrections(t, repeated(1, 7*blocks))
	}
}

func wantCorrections(t *testing.T, list []int) {
	t.Helper()
	var want []int
	corrections := 0
	for at := 0; at < len(list); at += 7 {
		bits, place := nearest(t, list[at:at+7])
		want = append(want, bits...)
		corrections += min(place, 1)
	}
	wantDecodedBlocks(t, list, want, corrections)
	bits, count := impl.DecodeBlocks(list)
	if count != impl.HammingDistance(impl.EncodeBlocks(bits), list) || count > len(list)/7 {
		t.Fatalf("%v is decoded to %v with %d corrections", list, bits, count)
	}
}

// Promise 42, with the same place wrong in every block, and with another one in each.
func TestOneErrorPerBlockIsCorrected(t *testing.T) {
	for _, blocks := range blockCounts() {
		bits := mixedBits(blocks, 4*blocks)
		coded := impl.EncodeBlocks(bits)
		for place := range 7 {
			wrong := slices.Clone(coded)
			for at := place; at < len(wrong); at += 7 {
				wrong[at] = 1 - wrong[at]
			}
			wantDecodedBlocks(t, wrong, bits, blocks)
			wantDecodedBlocks(t, withErrors(place, coded), bits, blocks)
		}
	}
}

// Promise 108.
func TestCodesCombine(t *testing.T) {
	for _, g := range generators() {
		for _, blocks := range []int{4, 5, 6, 17, 64, 127, 128} {
			whole := withCheck(t, blocks, 4*blocks-degree(g), g)
			coded := impl.EncodeBlocks(whole)
			if len(coded) != 7*blocks {
				t.Fatalf("%d bits with their check are coded with %d bits", len(whole), len(coded))
			}
			for seed := range 5 {
				bits, count := impl.DecodeBlocks(withErrors(seed, coded))
				if count != blocks || !impl.CheckPasses(bits, g) {
					t.Fatalf("%d blocks for %d have %d corrections and do not pass", blocks, g, count)
				}
				wantInts(t, "bits with their check", bits, whole)
			}
		}
	}
}

// Two errors in a block lead to a burst of at most four wrong bits, which a check of a degree of four or more detects.
func TestCheckDetectsWrongBlock(t *testing.T) {
	whole := withCheck(t, 1, 4*9-16, 69665)
	coded := impl.EncodeBlocks(whole)
	for at := 0; at < len(coded); at += 7 {
		for second := range 7 {
			for first := range second {
				bits, count := impl.DecodeBlocks(inverted(coded, at+first, at+second))
				if len(bits) != len(whole) || count != 1 || impl.CheckPasses(bits, 69665) {
					t.Fatalf("errors at %d and %d: %v with %d corrections", at+first, at+second, bits, count)
				}
			}
		}
	}
}

func TestBlocksBoundLength(t *testing.T) {
	for _, bit := range []int{0, 1} {
		for length := range 1100 {
			coded := impl.EncodeBlocks(repeated(bit, length))
			if length%4 != 0 || length > 512 {
				wantInts(t, "refused list to code", coded, nil)
			} else if len(coded) != length/4*7 {
				t.Fatalf("%d bits are coded with %d", length, len(coded))
			}
			bits, count := impl.DecodeBlocks(repeated(bit, length))
			if count != 0 {
				t.Fatalf("%d numbers %d have %d corrections", length, bit, count)
			}
			if length%7 != 0 || length > 896 {
				wantInts(t, "refused list to decode", bits, nil)
			} else {
				wantInts(t, "decoded list", bits, repeated(bit, length/7*4))
			}
		}
	}
	for _, length := range []int{2048, 3584, 7168} {
		wantRefusedBlocks(t, repeated(1, length))
	}
}

// Lists with errors, so that a number of corrections beside nil would be seen.
func TestBlocksOfOtherLengths(t *testing.T) {
	for _, length := range []int{1, 2, 3, 5, 6, 513, 514, 515, 517, 897, 898, 902, 904, 1009, 1021, 1023, 1025} {
		wantRefusedBlocks(t, mixedBits(length, length))
	}
	longest := impl.EncodeBlocks(mixedBits(1, 512))
	wantDecodedBlocks(t, withErrors(1, longest), mixedBits(1, 512), 128)
	wantDecodedBlocks(t, withErrors(1, append(longest, repeated(0, 7)...)), nil, 0)
	wantDecodedBlocks(t, withErrors(1, longest)[1:], nil, 0)
	wantInts(t, "one block more", impl.EncodeBlocks(mixedBits(1, 516)), nil)
}

func wantRefusedBlocks(t *testing.T, list []int) {
	t.Helper()
	wantInts(t, "EncodeBlocks", impl.EncodeBlocks(list), nil)
	wantDecodedBlocks(t, list, nil, 0)
}

func TestNoBlocks(t *testing.T) {
	for _, empty := range [][]int{nil, {}} {
		wantInts(t, "no bits coded", impl.EncodeBlocks(empty), nil)
		wantDecodedBlocks(t, empty, nil, 0)
	}
}

func TestNibblesAndWordsOfOtherLengths(t *testing.T) {
	for _, length := range append(bitLengths(), 4, 6, 14, 28, impl.MaxBits+1, impl.MaxBits+4) {
		for _, list := range [][]int{repeated(0, length), repeated(1, length), mixedBits(length, length)} {
			if length != 4 {
				wantInts(t, "EncodeNibble", impl.EncodeNibble(list), nil)
			}
			if length != 7 {
				wantRefusedWord(t, list)
			}
		}
	}
	wantInts(t, "EncodeNibble of nil", impl.EncodeNibble(nil), nil)
	wantRefusedWord(t, nil)
	wantRefusedWord(t, []int{1, 0, 1, 1})
}

func wantRefusedWord(t *testing.T, list []int) {
	t.Helper()
	if syndrome := impl.SyndromeOf(list); syndrome != -1 {
		t.Fatalf("%v has the syndrome %d", list, syndrome)
	}
	if bits, wrong := impl.DecodeNibble(list); len(bits) != 0 || wrong {
		t.Fatalf("%v is decoded to %v, %v", list, bits, wrong)
	}
}

func TestNibblesAndWordsWithOtherNumbers(t *testing.T) {
	for _, number := range notBits() {
		eachNibble(func(bits []int, _ []int) {
			for place := range bits {
				wantInts(t, "EncodeNibble", impl.EncodeNibble(changed(bits, place, number)), nil)
				wantRefusedBlocks(t, changed(bits, place, number))
			}
		})
		eachWord(func(word []int) {
			for place := range word {
				wantRefusedWord(t, changed(word, place, number))
				wantRefusedBlocks(t, changed(word, place, number))
			}
		})
	}
}

func TestBlocksWithOtherNumbers(t *testing.T) {
	for _, number := range notBits() {
		for _, length := range []int{4, 7, 8, 14, 28, 56, 512, 896} {
			list := mixedBits(length, length)
			for _, place := range []int{0, 1, 3, 4, 6, 7, length / 2, length - 2, length - 1} {
				if place < length {
					wantRefusedBlocks(t, changed(list, place, number))
				}
			}
		}
	}
}

func TestBlockArgumentsAreNotWritten(t *testing.T) {
	eachWord(func(word []int) {
		word, whole := guarded(word, 7)
		before := slices.Clone(whole)
		impl.SyndromeOf(word)
		bits, _ := impl.DecodeNibble(word)
		overwrite(bits, 9)
		overwrite(impl.EncodeNibble(word[:4]), 9)
		overwrite(impl.EncodeNibble(word[3:]), 9)
		wantInts(t, "word", whole, before)
	})
	for _, blocks := range blockCounts() {
		list, whole := guarded(mixedBits(1, 4*blocks), 7)
		coded, wholeCoded := guarded(mixedBits(2, 7*blocks), 7)
		before, beforeCoded := slices.Clone(whole), slices.Clone(wholeCoded)
		overwrite(impl.EncodeBlocks(list), 9)
		bits, _ := impl.DecodeBlocks(coded)
		overwrite(bits, 9)
		wantInts(t, "list", whole, before)
		wantInts(t, "coded list", wholeCoded, beforeCoded)
	}
}

// An invalid list is not corrected in part before it is refused.
func TestRefusedBlocksAreNotWritten(t *testing.T) {
	for _, length := range []int{1, 3, 5, 6, 8, 14, 15, 28, 512, 516, 896, 903} {
		for _, last := range []int{1, 2} {
			list, whole := guarded(append(mixedBits(length, length-1), last), 7)
			before := slices.Clone(whole)
			impl.SyndromeOf(list)
			bits, _ := impl.DecodeNibble(list)
			overwrite(bits, 9)
			overwrite(impl.EncodeNibble(list), 9)
			overwrite(impl.EncodeBlocks(list), 9)
			bits, _ = impl.DecodeBlocks(list)
			overwrite(bits, 9)
			wantInts(t, "list", whole, before)
		}
	}
}

func TestNibbleResultsAreNewMemory(t *testing.T) {
	eachNibble(func(bits []int, word []int) {
		for place := range word {
			wrong := inverted(word, place)
			list := slices.Clone(bits)
			coded, codedAgain := impl.EncodeNibble(list), impl.EncodeNibble(list)
			back, _ := impl.DecodeNibble(wrong)
			backAgain, _ := impl.DecodeNibble(wrong)
			for _, other := range [][]int{list, wrong, codedAgain, backAgain} {
				overwrite(other, 9)
			}
			wantInts(t, "EncodeNibble", coded, word)
			wantInts(t, "DecodeNibble", back, bits)
			wantInts(t, "EncodeNibble after writing", impl.EncodeNibble(bits), word)
		}
	})
}

func TestBlockResultsAreNewMemory(t *testing.T) {
	for _, blocks := range blockCounts() {
		list := mixedBits(1, 4*blocks)
		wrong := withErrors(1, modelBlocks(list))
		wantCoded, wantBits := modelBlocks(list), slices.Clone(list)
		coded, codedAgain := impl.EncodeBlocks(list), impl.EncodeBlocks(list)
		bits, _ := impl.DecodeBlocks(wrong)
		bitsAgain, _ := impl.DecodeBlocks(wrong)
		for _, other := range [][]int{list, wrong, codedAgain, bitsAgain} {
			overwrite(other, 9)
		}
		wantInts(t, "EncodeBlocks", coded, wantCoded)
		wantInts(t, "DecodeBlocks", bits, wantBits)
		wantInts(t, "EncodeBlocks after writing", impl.EncodeBlocks(wantBits), wantCoded)
	}
}
