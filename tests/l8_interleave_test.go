package tests

import (
	"math"
	"slices"
	"testing"

	"loop.example/softwareradio/impl"
)

// modelTable writes a list into a table row by row, without the program.
func modelTable(list []int, rows int) [][]int {
	table := make([][]int, rows)
	columns := len(list) / rows
	for k, bit := range list {
		table[k/columns] = append(table[k/columns], bit)
	}
	return table
}

// modelInterleaved reads the table of a list column by column, without the program.
func modelInterleaved(list []int, rows int) []int {
	var read []int
	table := modelTable(list, rows)
	for column := range table[0] {
		for _, row := range table {
			read = append(read, row[column])
		}
	}
	return read
}

// modelSpread marks a burst in a table column by column, without the program, and returns the greatest number of marks in a row.
func modelSpread(rows int, columns int, at int, n int) int {
	marks := make([]int, rows)
	index := 0
	for range columns {
		for row := range rows {
			if index >= at && index < at+n {
				marks[row]++
			}
			index++
		}
	}
	return slices.Max(marks)
}

// eachSize calls a test with all numbers of rows and columns for which there are at most most bits, no columns included.
func eachSize(most int, test func(rows int, columns int)) {
	for rows := 1; rows <= 32; rows++ {
		for columns := range most/rows + 1 {
			test(rows, columns)
		}
	}
}

// placeLists are lists of bits of one length that, taken together, have other bits in every place, so that they tell the permutation.
func placeLists(length int) [][]int {
	var lists [][]int
	for digit := range 10 {
		list := make([]int, length)
		for k := range list {
			list[k] = k >> digit & 1
		}
		lists = append(lists, list)
	}
	return lists
}

// eachTable calls a test with lists for all numbers of rows and columns, and with all lists that are short.
func eachTable(test func(list []int, rows int)) {
	eachSize(1024, func(rows int, columns int) {
		for _, list := range placeLists(rows * columns) {
			test(list, rows)
		}
		test(mixedBits(rows, rows*columns), rows)
	})
	eachSize(10, func(rows int, columns int) {
		for number := range 1 << (rows * columns) {
			test(digits(number, rows*columns), rows)
		}
	})
}

// someSizes are tables with one row and with one column, with as many rows as columns, with 32 rows, and with as many bits as MaxBits.
func someSizes() [][2]int {
	return [][2]int{{1, 0}, {1, 1}, {1, 2}, {1, 7}, {1, 32}, {1, 33}, {1, 1024}, {2, 1}, {7, 1}, {31, 1}, {32, 0}, {32, 1}, {2, 2}, {2, 3}, {3, 2}, {7, 7}, {7, 32}, {31, 33}, {32, 7}, {32, 31}, {32, 32}, {16, 64}, {2, 512}, {4, 256}, {31, 32}, {20, 51}}
}

// notSides are numbers below 1 and above 32; some of them look valid if only their last digits are kept.
func notSides() []int {
	return []int{
		0, -1, -2, -7, -32, -33, -1024, 33, 34, 35, 40, 48, 64, 65, 96, 100, 128, 205, 256, 257, 260, 341, 512, 1023, 1024, 1025, 4096, 65536, 65538,
		1 << 31, 1 << 32, 1<<32 + 2, -1 << 32, 1<<62 + 4, math.MaxInt, math.MaxInt - 1, math.MinInt, math.MinInt + 1, math.MinInt + 2,
	}
}

func wantRefusedTable(t *testing.T, list []int, rows int) {
	t.Helper()
	if got := impl.InterleaveBits(list, rows); len(got) != 0 {
		t.Fatalf("%d numbers are interleaved with %d rows: %v", len(list), rows, got)
	}
	if got := impl.DeinterleaveBits(list, rows); len(got) != 0 {
		t.Fatalf("%d numbers are deinterleaved with %d rows: %v", len(list), rows, got)
	}
}

func wantSpread(t *testing.T, rows int, columns int, at int, n int, want int) {
	t.Helper()
	if got := impl.BurstSpread(rows, columns, at, n); got != want {
		t.Fatalf("%d rows, %d columns, a burst of %d from %d on: the spread is %d, want %d", rows, columns, n, at, got, want)
	}
}

func TestInterleavedTables(t *testing.T) {
	for _, table := range []struct {
		rows        int
		list        []int
		interleaved []int
	}{
		{2, []int{1, 0, 0, 1, 1, 0}, []int{1, 1, 0, 1, 0, 0}},
		{3, []int{1, 0, 0, 1, 1, 0}, []int{1, 0, 1, 0, 1, 0}},
		{1, []int{1, 0, 0, 1, 1, 0}, []int{1, 0, 0, 1, 1, 0}},
		{6, []int{1, 0, 0, 1, 1, 0}, []int{1, 0, 0, 1, 1, 0}},
		{2, []int{1, 1, 0, 0}, []int{1, 0, 1, 0}},
		{2, []int{1, 1, 1, 1, 0, 0, 0, 0}, []int{1, 0, 1, 0, 1, 0, 1, 0}},
		{4, []int{1, 1, 1, 1, 0, 0, 0, 0}, []int{1, 1, 0, 0, 1, 1, 0, 0}},
		{3, []int{0, 1, 0, 0, 0, 0, 0, 0, 1}, []int{0, 0, 0, 1, 0, 0, 0, 0, 1}},
	} {
		wantInts(t, "interleaved", impl.InterleaveBits(table.list, table.rows), table.interleaved)
		wantInts(t, "deinterleaved", impl.DeinterleaveBits(table.interleaved, table.rows), table.list)
	}
}

// Promises 52 and 53, against a table.
func TestTablesAreReadColumnByColumn(t *testing.T) {
	eachTable(func(list []int, rows int) {
		read := modelInterleaved(list, rows)
		if got := impl.InterleaveBits(list, rows); !slices.Equal(got, read) {
			t.Fatalf("%v with %d rows is interleaved to %v, want %v", list, rows, got, read)
		}
		if got := impl.DeinterleaveBits(read, rows); !slices.Equal(got, list) {
			t.Fatalf("%v with %d rows is deinterleaved to %v, want %v", read, rows, got, list)
		}
	})
}

// Promise 52.
func TestInterleavingIsAPermutation(t *testing.T) {
	eachTable(func(list []int, rows int) {
		read := impl.InterleaveBits(list, rows)
		if len(read) != len(list) || differences(read, repeated(0, len(list))) != differences(list, repeated(0, len(list))) {
			t.Fatalf("%v with %d rows is interleaved to %v", list, rows, read)
		}
		if got := impl.DeinterleaveBits(read, rows); !slices.Equal(got, list) {
			t.Fatalf("%v with %d rows is interleaved to %v, and deinterleaved to %v", list, rows, read, got)
		}
	})
}

// Promise 53.
func TestDeinterleavingUndoesInterleaving(t *testing.T) {
	eachTable(func(list []int, rows int) {
		written := impl.DeinterleaveBits(list, rows)
		if len(written) != len(list) || differences(written, repeated(0, len(list))) != differences(list, repeated(0, len(list))) {
			t.Fatalf("%v with %d rows is deinterleaved to %v", list, rows, written)
		}
		if got := impl.InterleaveBits(written, rows); !slices.Equal(got, list) {
			t.Fatalf("%v with %d rows is deinterleaved to %v, and interleaved to %v", list, rows, written, got)
		}
	})
}

// Promises 52 and 53, with a single 1 in every place, so that every place has one place of its own.
func TestEveryPlaceHasItsOwn(t *testing.T) {
	for _, size := range someSizes() {
		rows, length := size[0], size[0]*size[1]
		if length > 512 {
			continue
		}
		read, written := repeated(0, length), repeated(0, length)
		for place := range length {
			single := changed(repeated(0, length), place, 1)
			read = impl.AddBits(read, impl.InterleaveBits(single, rows))
			written = impl.AddBits(written, impl.DeinterleaveBits(single, rows))
		}
		wantInts(t, "all places interleaved", read, repeated(1, length))
		wantInts(t, "all places deinterleaved", written, repeated(1, length))
	}
}

// Promise 52, with all lengths.
func TestOneRowChangesNothing(t *testing.T) {
	for length := range impl.MaxBits + 1 {
		for _, list := range [][]int{mixedBits(length, length), repeated(0, length), repeated(1, length)} {
			wantInts(t, "interleaved with one row", impl.InterleaveBits(list, 1), list)
			wantInts(t, "deinterleaved with one row", impl.DeinterleaveBits(list, 1), list)
		}
	}
}

// With one column nothing changes, either.
func TestOneColumnChangesNothing(t *testing.T) {
	for rows := 1; rows <= 32; rows++ {
		for _, list := range append(placeLists(rows), mixedBits(rows, rows), repeated(1, rows)) {
			wantInts(t, "interleaved with one column", impl.InterleaveBits(list, rows), list)
			wantInts(t, "deinterleaved with one column", impl.DeinterleaveBits(list, rows), list)
		}
	}
}

// Promise 52, with all numbers of rows and columns that both can be numbers of rows.
func TestInterleavingWithColumnsAsRows(t *testing.T) {
	for rows := 1; rows <= 32; rows++ {
		for columns := 1; columns <= 32; columns++ {
			for _, list := range append(placeLists(rows*columns), mixedBits(columns, rows*columns)) {
				read := impl.InterleaveBits(list, rows)
				wantInts(t, "interleaved twice", impl.InterleaveBits(read, columns), list)
				wantInts(t, "interleaved otherwise", impl.InterleaveBits(list, columns), impl.DeinterleaveBits(list, rows))
			}
		}
	}
}

// Tables with more columns than there can be rows are deinterleaved, too.
func TestTablesWithManyColumns(t *testing.T) {
	for _, size := range [][2]int{{1, 1024}, {1, 33}, {2, 33}, {2, 512}, {3, 341}, {5, 204}, {7, 146}, {16, 64}, {30, 34}, {31, 33}} {
		for _, list := range append(placeLists(size[0]*size[1]), mixedBits(size[1], size[0]*size[1])) {
			wantInts(t, "interleaved", impl.InterleaveBits(list, size[0]), modelInterleaved(list, size[0]))
			wantInts(t, "back", impl.DeinterleaveBits(impl.InterleaveBits(list, size[0]), size[0]), list)
			wantRefusedTable(t, list, size[1])
		}
	}
}

func TestNoBitsInterleaved(t *testing.T) {
	for _, empty := range [][]int{nil, {}} {
		for rows := -5; rows <= 40; rows++ {
			wantInts(t, "no bits interleaved", impl.InterleaveBits(empty, rows), nil)
			wantInts(t, "no bits deinterleaved", impl.DeinterleaveBits(empty, rows), nil)
		}
	}
}

// wantEvenSpread checks BurstSpread, and that the burst has this spread in the list that is deinterleaved.
func wantEvenSpread(t *testing.T, rows int, columns int, at int, n int) {
	t.Helper()
	want := (n + rows - 1) / rows
	wantSpread(t, rows, columns, at, n, want)
	burst := repeated(0, rows*columns)
	copy(burst[at:], repeated(1, n))
	most := 0
	for _, row := range modelTable(impl.DeinterleaveBits(burst, rows), rows) {
		most = max(most, differences(row, repeated(0, columns)))
	}
	if most != want {
		t.Fatalf("%d rows, %d columns, a burst of %d from %d on: a row has %d of its bits, want %d", rows, columns, n, at, most, want)
	}
}

// Promise 7, with all bursts in tables of at most 36 bits.
func TestBurstsAreSpreadEvenly(t *testing.T) {
	eachSize(36, func(rows int, columns int) {
		if columns < 1 || columns > 32 {
			return
		}
		for at := range rows*columns + 1 {
			for n := range rows*columns - at + 1 {
				wantEvenSpread(t, rows, columns, at, n)
			}
		}
	})
}

// Promise 7, with bursts of no bits, of one bit, of as many bits as there are rows and one more or less, of a whole number of columns, and of all bits that are left, in all tables.
func TestNamedBurstsInAllTables(t *testing.T) {
	for rows := 1; rows <= 32; rows++ {
		for columns := 1; columns <= 32; columns++ {
			size := rows * columns
			for _, at := range []int{0, 1, rows - 1, rows, rows + 1, size / 2, size - rows, size - 1, size} {
				for _, n := range []int{0, 1, rows - 1, rows, rows + 1, 2 * rows, 2*rows + 1, size - rows, size - at - 1, size - at} {
					if at <= size && n >= 0 && n <= size-at {
						wantEvenSpread(t, rows, columns, at, n)
					}
				}
			}
		}
	}
}

// Promise 7, with all bursts in tables with many rows or columns.
func TestBurstsInLargeTables(t *testing.T) {
	for _, size := range [][2]int{{1, 32}, {32, 1}, {2, 32}, {32, 2}, {7, 16}, {16, 7}, {12, 12}, {5, 32}, {32, 5}} {
		rows, columns := size[0], size[1]
		for at := range rows*columns + 1 {
			for n := range rows*columns - at + 1 {
				wantSpread(t, rows, columns, at, n, modelSpread(rows, columns, at, n))
			}
		}
	}
	for at := 0; at <= 1024; at += 31 {
		for n := range 1024 - at + 1 {
			wantSpread(t, 32, 32, at, n, (n+31)/32)
		}
	}
}

func TestNamedBursts(t *testing.T) {
	for _, burst := range []struct{ rows, columns, at, n, want int }{
		{2, 3, 1, 3, 2}, {2, 3, 0, 0, 0}, {2, 3, 6, 0, 0}, {2, 3, 0, 1, 1}, {2, 3, 5, 1, 1}, {2, 3, 0, 2, 1}, {2, 3, 1, 2, 1}, {2, 3, 0, 3, 2}, {2, 3, 0, 6, 3}, {2, 3, 4, 2, 1}, {2, 3, 2, 4, 2},
		{1, 1, 0, 0, 0}, {1, 1, 0, 1, 1}, {1, 1, 1, 0, 0}, {1, 5, 0, 5, 5}, {1, 5, 2, 3, 3}, {5, 1, 0, 5, 1}, {5, 1, 2, 3, 1}, {5, 1, 5, 0, 0},
		{32, 32, 0, 1024, 32}, {32, 32, 0, 32, 1}, {32, 32, 0, 33, 2}, {32, 32, 991, 33, 2}, {32, 32, 992, 32, 1}, {32, 32, 1023, 1, 1}, {32, 32, 1024, 0, 0}, {32, 32, 1, 1023, 32}, {32, 32, 0, 992, 31},
		{1, 32, 0, 32, 32}, {32, 1, 0, 32, 1}, {32, 1, 32, 0, 0},
	} {
		wantSpread(t, burst.rows, burst.columns, burst.at, burst.n, burst.want)
	}
}

// withBurst returns a copy of a list with n consecutive bits inverted.
func withBurst(list []int, at int, n int) []int {
	list = slices.Clone(list)
	for k := at; k < at+n; k++ {
		list[k] = 1 - list[k]
	}
	return list
}

// interleavedBlocks returns bits, and their code of chapter 4 interleaved with as many rows as there are blocks.
func interleavedBlocks(t *testing.T, seed int, blocks int) ([]int, []int) {
	t.Helper()
	list := mixedBits(seed, 4*blocks)
	read := impl.InterleaveBits(modelBlocks(list), blocks)
	if len(read) != 7*blocks {
		t.Fatalf("%d blocks are interleaved to %v", blocks, read)
	}
	return list, read
}

// wantBlocksBack checks what interleaved blocks with errors are decoded to.
func wantBlocksBack(t *testing.T, read []int, blocks int, want []int, corrections int) {
	t.Helper()
	wantDecodedBlocks(t, impl.DeinterleaveBits(read, blocks), want, corrections)
}

// Promise 109, with a burst in every place and of every length up to the number of blocks.
func TestInterleavingTurnsBurstsIntoSingleErrors(t *testing.T) {
	for blocks := 1; blocks <= 32; blocks++ {
		list, read := interleavedBlocks(t, blocks, blocks)
		for n := range blocks + 1 {
			for at := range 7*blocks - n + 1 {
				wantBlocksBack(t, withBurst(read, at, n), blocks, list, n)
				wantSpread(t, blocks, 7, at, n, min(n, 1))
			}
		}
	}
}

// Promise 109, with bursts that leave some of their bits as they are.
func TestBurstsOfAnyPattern(t *testing.T) {
	for blocks := 1; blocks <= 32; blocks++ {
		list, read := interleavedBlocks(t, 100+blocks, blocks)
		for at := range 6*blocks + 1 {
			for seed := range 8 {
				burst := mixedBits(seed, blocks)
				wrong := slices.Clone(read)
				copy(wrong[at:], impl.AddBits(read[at:at+blocks], burst))
				wantBlocksBack(t, wrong, blocks, list, differences(burst, repeated(0, blocks)))
			}
		}
	}
}

// Promise 109, for all bits of two blocks and all bursts.
func TestBurstsInAllPairsOfBlocks(t *testing.T) {
	for number := range 256 {
		list := digits(number, 8)
		read := impl.InterleaveBits(impl.EncodeBlocks(list), 2)
		wantBlocksBack(t, read, 2, list, 0)
		for at := range 14 {
			wantBlocksBack(t, inverted(read, at), 2, list, 1)
		}
		for at := range 13 {
			wantBlocksBack(t, inverted(read, at, at+1), 2, list, 2)
		}
	}
}

// The first and the last bit of a burst that is longer by one are in the same block, which is then decoded to other bits.
func TestLongerBurstsAreNotCorrected(t *testing.T) {
	for blocks := 1; blocks <= 32; blocks++ {
		list, read := interleavedBlocks(t, 200+blocks, blocks)
		for at := range 6 * blocks {
			back, corrections := impl.DecodeBlocks(impl.DeinterleaveBits(withBurst(read, at, blocks+1), blocks))
			if len(back) != len(list) || slices.Equal(back, list) || corrections != blocks {
				t.Fatalf("%d blocks with a burst from %d on are decoded to %v with %d corrections", blocks, at, back, corrections)
			}
			block := at % blocks
			wantInts(t, "blocks before", back[:4*block], list[:4*block])
			wantInts(t, "blocks behind", back[4*block+4:], list[4*block+4:])
			wantSpread(t, blocks, 7, at, blocks+1, 2)
		}
	}
}

func TestOtherNumbersOfRows(t *testing.T) {
	for _, rows := range notSides() {
		for _, length := range append(bitLengths(), 4, 6, 34, 66, 96, 99, 330, 340, 990, 1000, 1056, 1025) {
			wantRefusedTable(t, repeated(0, length), rows)
			wantRefusedTable(t, mixedBits(length, length), rows)
		}
		for columns := 1; columns <= 20; columns++ {
			if rows > 0 && rows <= 1024/columns {
				wantRefusedTable(t, mixedBits(rows, rows*columns), rows)
			}
		}
	}
}

func TestLengthsOfTables(t *testing.T) {
	for length := range 1100 {
		for _, list := range [][]int{repeated(1, length), mixedBits(length, length)} {
			for rows := -3; rows <= 36; rows++ {
				if rows < 1 || rows > 32 || length%rows != 0 || length > impl.MaxBits {
					wantRefusedTable(t, list, rows)
				} else {
					wantInts(t, "interleaved", impl.InterleaveBits(list, rows), modelInterleaved(list, rows))
					wantInts(t, "deinterleaved", modelInterleaved(impl.DeinterleaveBits(list, rows), rows), list)
				}
			}
		}
	}
	for _, length := range []int{1 << 11, 1 << 12, 1 << 16, 1<<16 + 32} {
		for rows := 1; rows <= 32; rows++ {
			wantRefusedTable(t, repeated(0, length), rows)
		}
	}
}

func TestTablesWithOtherNumbers(t *testing.T) {
	for _, number := range notBits() {
		for _, size := range someSizes() {
			length := size[0] * size[1]
			list := mixedBits(length, length)
			for _, place := range []int{0, 1, size[0] - 1, size[0], size[1] - 1, size[1], length / 2, length - 2, length - 1} {
				if place >= 0 && place < length {
					wantRefusedTable(t, changed(list, place, number), size[0])
				}
			}
		}
		for place := range 6 {
			for rows := range 8 {
				wantRefusedTable(t, changed(repeated(1, 6), place, number), rows)
			}
		}
	}
}

// Promise 7: bursts that are not in a table have no spread, and neither have tables that do not exist, also for no bits.
func TestOtherBursts(t *testing.T) {
	for rows := -3; rows <= 36; rows++ {
		for columns := -3; columns <= 36; columns++ {
			size := rows * columns
			for _, at := range []int{-1, 0, 1, size - 1, size, size + 1} {
				for _, n := range []int{-1, 0, 1, size - at - 1, size - at, size - at + 1, size, size + 1} {
					valid := rows >= 1 && rows <= 32 && columns >= 1 && columns <= 32 && at >= 0 && at <= size && n >= 0 && n <= size-at
					if valid {
						wantSpread(t, rows, columns, at, n, (n+rows-1)/rows)
					} else {
						wantSpread(t, rows, columns, at, n, -1)
					}
				}
			}
		}
	}
}

// Numbers far outside must not come back into the range by wrapping around.
func TestBurstsFarOutside(t *testing.T) {
	for _, side := range notSides() {
		for _, other := range []int{1, 2, 7, 31, 32, 1 << 32, 0, -1, side} {
			for _, at := range []int{0, 1} {
				for _, n := range []int{0, 1} {
					wantSpread(t, side, other, at, n, -1)
					wantSpread(t, other, side, at, n, -1)
				}
			}
		}
	}
	far := []int{math.MaxInt, math.MaxInt - 1, math.MaxInt - 5, math.MinInt, math.MinInt + 1, math.MinInt + 6, 1 << 32, 1<<32 + 1, -1 << 32, -1 << 62, 1 << 62, 1025, 2000, -2, -6, -1024}
	for _, number := range far {
		for _, size := range [][2]int{{1, 1}, {1, 32}, {32, 1}, {2, 3}, {3, 2}, {7, 7}, {32, 32}} {
			for _, near := range []int{0, 1, 2, size[0] * size[1]} {
				wantSpread(t, size[0], size[1], number, near, -1)
				wantSpread(t, size[0], size[1], near, number, -1)
			}
			for _, second := range far {
				wantSpread(t, size[0], size[1], number, second, -1)
			}
		}
	}
}

func TestTableArgumentsAreNotWritten(t *testing.T) {
	check := func(list []int, rows int) {
		part, whole := guarded(list, 7)
		before := slices.Clone(whole)
		overwrite(impl.InterleaveBits(part, rows), 9)
		overwrite(impl.DeinterleaveBits(part, rows), 9)
		wantInts(t, "list", whole, before)
	}
	for _, size := range someSizes() {
		length := size[0] * size[1]
		for _, list := range [][]int{repeated(0, length), repeated(1, length), mixedBits(length, length)} {
			check(list, size[0])
			check(list, 33)
			check(append(list, 1), size[0])
			if length > 0 {
				check(changed(list, length-1, 2), size[0])
				check(changed(list, 0, -1), size[0])
			}
		}
	}
	for length := range 200 {
		for rows := range 34 {
			check(mixedBits(length, length), rows)
		}
	}
}

// With one row and with one column the results are equal to the bits, and yet new memory.
func TestTableResultsAreNewMemory(t *testing.T) {
	for _, size := range someSizes() {
		rows, length := size[0], size[0]*size[1]
		list := mixedBits(length, length)
		argument := slices.Clone(list)
		read, readAgain := impl.InterleaveBits(argument, rows), impl.InterleaveBits(argument, rows)
		written, writtenAgain := impl.DeinterleaveBits(argument, rows), impl.DeinterleaveBits(argument, rows)
		for _, other := range [][]int{argument, readAgain, writtenAgain} {
			overwrite(other, 9)
		}
		wantInts(t, "InterleaveBits", read, modelInterleaved(list, rows))
		wantInts(t, "DeinterleaveBits", modelInterleaved(written, rows), list)
		overwrite(read, 9)
		wantInts(t, "DeinterleaveBits beside InterleaveBits", modelInterleaved(written, rows), list)
		overwrite(written, 9)
		wantInts(t, "InterleaveBits after writing", impl.InterleaveBits(list, rows), modelInterleaved(list, rows))
	}
}

// The results are the same after every call.
func TestInterleavingKeepsNoState(t *testing.T) {
	for _, size := range someSizes() {
		rows, length := size[0], size[0]*size[1]
		list := mixedBits(1, length)
		overwrite(impl.InterleaveBits(repeated(1, 1024), 32), 9)
		overwrite(impl.DeinterleaveBits(repeated(1, 1024), 32), 9)
		impl.InterleaveBits(repeated(2, 1024), 16)
		wantSpread(t, 32, 32, 0, 1024, 32)
		wantSpread(t, 33, 32, 0, 1024, -1)
		wantSpread(t, 32, 32, 1, 1, 1)
		wantSpread(t, 2, 3, 1, 3, 2)
		wantInts(t, "InterleaveBits", impl.InterleaveBits(list, rows), modelInterleaved(list, rows))
		wantInts(t, "DeinterleaveBits", impl.DeinterleaveBits(modelInterleaved(list, rows), rows), list)
	}
}
