package frames

import (
	"strings"

	"groove/rows"
	"groove/words"
)

// Found is a frame as it was found in a track. The zero Found, of which all is
// lost, stands for one that was not found.
type Found struct {
	Number  words.Found // modulo 256
	Symbols [rows.Symbols]words.Found
}

// Find sends the frames that bits hold, in their order, and closes.
func Find(bits string, found chan<- Found) {
	defer close(found)
	for {
		at := strings.Index(bits, mark)
		// Behind a mark that lacks room no other has it.
		if at < 0 || len(bits)-at < size {
			return
		}
		found <- read(bits[at : at+size])
		bits = bits[at+size:]
	}
}

func read(bits string) Found {
	frame := Found{Number: wordAt(bits, 0)}
	for j := range frame.Symbols {
		frame.Symbols[j] = wordAt(bits, 1+j)
	}
	return frame
}

func wordAt(bits string, place int) words.Found {
	from := len(mark) + place*(words.Size+1)
	return words.Find(bits[from : from+words.Size])
}

// Gathered is the frames that were wanted, by their numbers, and how many
// were found, whether wanted or not.
type Gathered struct {
	Wanted []Found
	Count  int
}

// Gather ranges over the frames that are found. The wanted ones are those with
// a number less than wanted.
func Gather(found <-chan Found, wanted int) Gathered {
	gathered := Gathered{Wanted: make([]Found, wanted)}
	least := 0
	for frame := range found {
		number := frame.number(least)
		if number < wanted {
			gathered.Wanted[number] = frame
		}
		gathered.Count++
		least = number + 1
	}
	return gathered
}

// number tells the least number that the frame can have, from a given one on.
func (frame Found) number(least int) int {
	if frame.Number.Lost() {
		return least
	}
	// The difference of bytes goes round as numbers in frames do.
	return least + int(frame.Number.Byte-byte(least))
}

// Lift takes up again the rows that were laid down over frames.
func Lift(frames []Found, rowCount, depth int) []rows.Found {
	all := make([]rows.Found, rowCount)
	for r := range all {
		for j := range all[r] {
			all[r][j] = frames[r+depth*j].Symbols[j]
		}
	}
	return all
}
