// Package words: the words that stand for bytes in a track.
package words

const (
	// Size is how many bits a word has.
	Size = 12

	bytesInAll   = 256
	tooManyZeros = 8
	groupSize    = 64 // words of one group begin with the same six bits
	groups       = 1 << Size / groupSize
)

// wordTables holds both ways. A place for each 12-bit number would make the
// way back sixteen times as long as the table of words; since words rise with
// their bytes, it suffices to keep where each group begins.
type wordTables struct {
	words [bytesInAll]uint16 // by byte
	back  [groups + 1]uint16 // by group: its first byte, if it has one
}

// tables is filled by init and only read from then on.
var tables wordTables

func init() {
	found := 0
	for number := range 1 << Size {
		if number%groupSize == 0 {
			tables.back[number/groupSize] = uint16(found)
		}
		if found < bytesInAll && isWord(number) {
			tables.words[found] = uint16(number)
			found++
		}
	}
	tables.back[groups] = uint16(found)
}

func isWord(number int) bool {
	return !onesTouch(number) && !zerosRunLong(number)
}

func onesTouch(number int) bool {
	return number&(number>>1) != 0
}

func zerosRunLong(number int) bool {
	run := 0
	for place := range Size {
		run++
		if number>>place&1 == 1 {
			run = 0
		}
		if run == tooManyZeros {
			return true
		}
	}
	return false
}

// Text tells the word of a number, and whether that is a byte.
func Text(b int) (string, bool) {
	if b < 0 || b >= bytesInAll {
		return "", false
	}
	return OfByte(byte(b)), true
}

// OfByte tells the word of a byte.
func OfByte(b byte) string {
	number := tables.words[b]
	text := make([]byte, Size)
	for place := range text {
		text[place] = '0' + byte(number>>(Size-1-place)&1)
	}
	return string(text)
}

// Byte tells the byte of a word, and whether the text is the word of one.
func Byte(text string) (int, bool) {
	number, ok := parse(text)
	if !ok {
		return 0, false
	}
	group := number / groupSize
	for b := tables.back[group]; b < tables.back[group+1]; b++ {
		if tables.words[b] == number {
			return int(b), true
		}
	}
	return 0, false
}

// Found is a word as it was found in a track: the one of a byte, or, as the
// zero Found, lost.
type Found struct {
	Byte  byte
	Known bool
}

// Find tells what the text of a word is found to be.
func Find(text string) Found {
	b, ok := Byte(text)
	return Found{byte(b), ok}
}

// Lost tells whether the word is no byte's, or was never found.
func (found Found) Lost() bool {
	return found == Found{}
}

func parse(text string) (uint16, bool) {
	if len(text) != Size {
		return 0, false
	}
	number := uint16(0)
	for place := range len(text) {
		bit := text[place]
		if bit != '0' && bit != '1' {
			return 0, false
		}
		number = number<<1 | uint16(bit-'0')
	}
	return number, true
}
