package impl

import "math/bits"

// MaxBits is the maximum number of bits of a list.
const MaxBits = 1024

const (
	byteBits = 8
	wordBits = 64
)

// bitWord holds up to wordBits bits of a list. The first one is the highest digit, so that eight bits in a row are the digits of a byte without reversing them.
type bitWord uint64

func (w bitWord) bitAt(place int) int {
	return int(w >> (wordBits - 1 - place) & 1)
}

// numberAt returns the number whose digits are the bits from a place on, the first one the highest.
func (w bitWord) numberAt(place int, count int) int {
	return int(w >> (wordBits - count - place) & (1<<count - 1))
}

func (w bitWord) withBit(place int, bit int) bitWord {
	return w | bitWord(bit)<<(wordBits-1-place)
}

func (w bitWord) byteAt(place int) byte {
	return byte(w >> (wordBits - byteBits - place))
}

func (w bitWord) withByte(place int, value byte) bitWord {
	return w | bitWord(value)<<(wordBits-byteBits-place)
}

func (w bitWord) ones() int {
	return bits.OnesCount64(uint64(w))
}

// packedBits is a valid list of bits. The places from length on are 0, so that whole words can be added and counted.
type packedBits struct {
	words  [MaxBits / wordBits]bitWord
	length int
}

func packBits(list []int) (packedBits, bool) {
	if len(list) > MaxBits {
		return packedBits{}, false
	}
	packed := packedBits{length: len(list)}
	for k, bit := range list {
		if bit != 0 && bit != 1 {
			return packedBits{}, false
		}
		packed.words[k/wordBits] = packed.words[k/wordBits].withBit(k%wordBits, bit)
	}
	return packed, true
}

func packBytes(data []byte) (packedBits, bool) {
	if len(data) > MaxBits/byteBits {
		return packedBits{}, false
	}
	packed := packedBits{length: len(data) * byteBits}
	for k, value := range data {
		at := k * byteBits
		packed.words[at/wordBits] = packed.words[at/wordBits].withByte(at%wordBits, value)
	}
	return packed, true
}

// packPair packs two lists; false if one is invalid or their lengths differ.
func packPair(a []int, b []int) (packedBits, packedBits, bool) {
	first, firstOk := packBits(a)
	second, secondOk := packBits(b)
	if !firstOk || !secondOk || first.length != second.length {
		return packedBits{}, packedBits{}, false
	}
	return first, second, true
}

func (p packedBits) list() []int {
	list := make([]int, p.length)
	for k := range list {
		list[k] = p.words[k/wordBits].bitAt(k % wordBits)
	}
	return list
}

// bytes leaves out the bits behind the last whole byte.
func (p packedBits) bytes() []byte {
	data := make([]byte, p.length/byteBits)
	for k := range data {
		at := k * byteBits
		data[k] = p.words[at/wordBits].byteAt(at % wordBits)
	}
	return data
}

// plus adds a list of the same length.
func (p packedBits) plus(q packedBits) packedBits {
	for k := range p.words {
		p.words[k] ^= q.words[k]
	}
	return p
}

func (p packedBits) ones() int {
	sum := 0
	for _, word := range p.words {
		sum += word.ones()
	}
	return sum
}

// BitsValid reports whether a list consists of at most MaxBits numbers 0 and 1.
func BitsValid(bits []int) bool {
	_, ok := packBits(bits)
	return ok
}

// BitsOfBytes returns the bits of at most MaxBits/8 bytes, the highest bit of every byte first; nil for more bytes.
func BitsOfBytes(data []byte) []int {
	packed, ok := packBytes(data)
	if !ok {
		return nil
	}
	return packed.list()
}

// BytesOfBits returns the bytes whose BitsOfBytes is a list of bits, and true; nil and false if the list is invalid or its length is not a multiple of 8.
func BytesOfBits(bits []int) ([]byte, bool) {
	packed, ok := packBits(bits)
	if !ok || packed.length%byteBits != 0 {
		return nil, false
	}
	return packed.bytes(), true
}

// HammingDistance returns the number of places in which two valid lists of equal length differ; -1 for other lists.
func HammingDistance(a []int, b []int) int {
	first, second, ok := packPair(a, b)
	if !ok {
		return -1
	}
	return first.plus(second).ones()
}

// AddBits returns the sum modulo 2, place by place, of two valid lists of equal length; nil for other lists.
func AddBits(a []int, b []int) []int {
	first, second, ok := packPair(a, b)
	if !ok {
		return nil
	}
	return first.plus(second).list()
}
