package groove_test

import (
	"math"
	"strconv"
	"strings"
	"sync"
	"testing"
	"unsafe"

	"groove/api"
	"groove/groove"
)

// allTexts are the texts of so many letters 0 and 1, in the order of their
// numbers.
func allTexts(length int) []string {
	texts := []string{""}
	for range length {
		var longer []string
		for _, text := range texts {
			longer = append(longer, text+"0", text+"1")
		}
		texts = longer
	}
	return texts
}

// wordsByText finds the words by looking at texts alone, so that it shares
// nothing with the way the program finds them.
func wordsByText() []string {
	var found []string
	for _, text := range allTexts(12) {
		if !strings.Contains(text, "11") && !strings.Contains(text, strings.Repeat("0", 8)) {
			found = append(found, text)
		}
	}
	return found
}

func TestWordOfEachByte(t *testing.T) {
	want := wordsByText()
	for b := range 256 {
		if word, e := groove.Word(b); word != want[b] || e != api.OK {
			t.Errorf("P2: Word(%d) = %q, %d, want %q", b, word, e, want[b])
		}
	}
}

func TestWordAsTheDocumentTells(t *testing.T) {
	for b, want := range map[int]string{
		0:   "000000010000",
		1:   "000000010001",
		255: "100010010000",
	} {
		if word, e := groove.Word(b); word != want || e != api.OK {
			t.Errorf("P2: Word(%d) = %q, %d, want %q", b, word, e, want)
		}
		if back, e := groove.Byte(want); back != b || e != api.OK {
			t.Errorf("P2: Byte(%q) = %d, %d, want %d", want, back, e, b)
		}
	}
}

func TestWordOfNoByte(t *testing.T) {
	for _, b := range []int{-1, -255, -256, 256, 257, 376, 511, 512, 4096, 65536, 1 << 32, 1<<32 + 1, math.MaxInt, math.MinInt, math.MinInt + 1} {
		if word, e := groove.Word(b); word != "" || e != api.ErrWord {
			t.Errorf("P2: Word(%d) = %q, %d, want ErrWord and nothing", b, word, e)
		}
	}
}

// TestByteOfEachText goes through all that has a word's length: the words of
// bytes, the words of none (there are more than 256), and what is no word.
func TestByteOfEachText(t *testing.T) {
	bytes := map[string]int{}
	for b, word := range wordsByText()[:256] {
		bytes[word] = b
	}
	for _, text := range allTexts(12) {
		want, is := bytes[text]
		wantErr := api.OK
		if !is {
			wantErr = api.ErrWord
		}
		if b, e := groove.Byte(text); b != want || e != wantErr {
			t.Errorf("P2: Byte(%q) = %d, %d, want %d, %d", text, b, e, want, wantErr)
		}
	}
}

func TestByteOfWordsBehindTheLast(t *testing.T) {
	behind := wordsByText()[256:]
	if len(behind) == 0 {
		t.Fatal("there are words that are no byte's")
	}
	for _, word := range behind {
		if b, e := groove.Byte(word); b != 0 || e != api.ErrWord {
			t.Errorf("P2: Byte(%q) = %d, %d: a word, but of no byte", word, b, e)
		}
	}
}

func TestByteOfOtherLengths(t *testing.T) {
	for length := range 12 {
		for _, text := range allTexts(length) {
			wantNoByte(t, text)
		}
	}
	for _, word := range wordsByText()[:256] {
		for _, text := range []string{word + "0", word + "1", "0" + word, "1" + word, word + word, " " + word, word + "\n", word + "\x00"} {
			wantNoByte(t, text)
		}
	}
	wantNoByte(t, strings.Repeat("0", 1<<20))
	wantNoByte(t, strings.Repeat("000000010001", 1<<16))
}

// TestByteOfOtherLetters puts every other letter at every place of a word:
// ones that are 0 or 1 in their lowest bit must not pass for these.
func TestByteOfOtherLetters(t *testing.T) {
	for _, word := range []string{"000000010000", "000000010001", "010101010101", "100010010000"} {
		for place := range len(word) {
			for letter := range 256 {
				if letter == '0' || letter == '1' {
					continue
				}
				wantNoByte(t, word[:place]+string([]byte{byte(letter)})+word[place+1:])
			}
		}
	}
	for _, text := range []string{"١00000010000", "0000000100٠", "0000000100é", "\xff\xfe\xfd\xfc\xfb\xfa\xf9\xf8\xf7\xf6\xf5\xf4", "0b0000010000", "-00000010000", "+00000010000", "0000_0010000"} {
		wantNoByte(t, text)
	}
}

func wantNoByte(t *testing.T, text string) {
	t.Helper()
	if b, e := groove.Byte(text); b != 0 || e != api.ErrWord {
		t.Errorf("P2: Byte(%q) = %d, %d, want 0, ErrWord", text, b, e)
	}
}

func TestWordIsNewMemory(t *testing.T) {
	for b := range 256 {
		first, _ := groove.Word(b)
		second, _ := groove.Word(b)
		if unsafe.StringData(first) == unsafe.StringData(second) {
			t.Errorf("P1: Word(%d) tells the same memory twice", b)
		}
	}
}

func TestWordsFromManyGoroutines(t *testing.T) {
	want := wordsByText()
	var all sync.WaitGroup
	for worker := range 8 {
		all.Go(func() {
			for b := range 256 {
				word, _ := groove.Word(b)
				back, _ := groove.Byte(want[b])
				if word != want[b] || back != b {
					t.Error("P1: worker " + strconv.Itoa(worker) + " was told another answer")
				}
			}
		})
	}
	all.Wait()
}
