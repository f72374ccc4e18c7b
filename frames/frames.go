// Package frames: rows laid down over frames, the bits of these, and frames
// that are found in a track.
package frames

import (
	"strings"

	"groove/rows"
	"groove/words"
)

const (
	// Words, with the 0 behind each, have at most fifteen zeros in a row: so
	// the mark stands nowhere else in a track.
	mark = "1" + "00000000000000000" + "10"

	wordsInAll = 1 + rows.Symbols // the number's, and one a symbol
	size       = len(mark) + wordsInAll*(words.Size+1)
)

// A Frame is what a frame tells. Its symbols are each of another row.
type Frame struct {
	Number  byte // modulo 256
	Symbols [rows.Symbols]byte
}

// Lay lays rows down over frames, the symbols of each depth frames apart.
func Lay(all []rows.Row, depth int) []Frame {
	frames := make([]Frame, Count(len(all), depth))
	for number := range frames {
		frames[number].Number = byte(number)
	}
	for r, row := range all {
		for j, symbol := range row {
			frames[r+depth*j].Symbols[j] = symbol
		}
	}
	return frames
}

// Count tells how many frames rows are laid down over.
func Count(rowCount, depth int) int {
	if rowCount == 0 {
		return 0
	}
	return rowCount + depth*(rows.Symbols-1)
}

// Track tells the bits of frames, one frame behind the other.
func Track(frames []Frame) string {
	var bits strings.Builder
	bits.Grow(len(frames) * size)
	for _, frame := range frames {
		frame.write(&bits)
	}
	return bits.String()
}

func (frame Frame) write(bits *strings.Builder) {
	bits.WriteString(mark)
	writeWord(bits, frame.Number)
	for _, symbol := range frame.Symbols {
		writeWord(bits, symbol)
	}
}

// The 0 behind a word keeps its last 1 from the first one of the next.
func writeWord(bits *strings.Builder, b byte) {
	bits.WriteString(words.OfByte(b))
	bits.WriteByte('0')
}
