package shell

import (
	"strconv"
	"strings"
)

const (
	blank     = ' '
	quote     = '"'
	backslash = '\\'
	lastPlain = '~' // behind it no byte stands bare, or is told as it is

	digits    = "0123456789"
	maxDigits = 10
	hexDigits = digits + "abcdef"
	hexBase   = 16
)

// Parse tells a line's words.
func Parse(line string) ([]string, bool) {
	var words []string
reading:
	for at := 0; ; {
		for ; ; at++ {
			if at == len(line) {
				break reading
			}
			if line[at] != blank {
				break
			}
		}
		word, size := wordAhead(line[at:])
		if size == 0 {
			return nil, false
		}
		words = append(words, word)
		at += size
	}
	return words, true
}

// wordAhead tells the word with which a text begins, and how many of its bytes say it (0: there is none).
func wordAhead(text string) (string, int) {
	if text[0] == quote {
		return quotedWord(text)
	}
	return bareWord(text)
}

// bareWord is wordAhead of a text that begins with no quote.
func bareWord(text string) (string, int) {
	size := 0
	for size < len(text) && text[size] != blank {
		if text[size] < blank || text[size] > lastPlain || text[size] == quote {
			return "", 0
		}
		size++
	}
	return text[:size], size
}

// quotedWord is wordAhead of a text that begins with a quote.
func quotedWord(text string) (string, int) {
	var word []byte
	for at := 1; at < len(text); {
		if text[at] == quote {
			return string(word), sizeAlone(text, at+1)
		}
		letter, size := letterAhead(text[at:])
		if size == 0 {
			return "", 0
		}
		word = append(word, letter)
		at += size
	}
	return "", 0
}

// sizeAlone tells the size of a word that ends there, if nothing stands at its end but a blank (else 0).
func sizeAlone(text string, end int) int {
	if end < len(text) && text[end] != blank {
		return 0
	}
	return end
}

// letterAhead tells the byte for which the beginning of a text stands within quotes, and how many bytes say it (0: that may not stand there).
func letterAhead(text string) (byte, int) {
	switch {
	case text[0] < blank:
		return 0, 0
	case text[0] != backslash:
		return text[0], 1
	case len(text) > 1 && (text[1] == quote || text[1] == backslash):
		return text[1], 2
	case len(text) > 3 && text[1] == 'x':
		if n, err := strconv.ParseUint(text[2:4], hexBase, 8); err == nil {
			return byte(n), 4
		}
	}
	return 0, 0
}

// quoted tells a text as a quoted word.
func quoted(text string) string {
	word := append(make([]byte, 0, len(text)+2), quote)
	for i := range len(text) { // by bytes: a text may be no UTF-8
		switch b := text[i]; {
		case b == quote || b == backslash:
			word = append(word, backslash, b)
		case b < blank || b > lastPlain:
			word = append(word, backslash, 'x', hexDigits[b/hexBase], hexDigits[b%hexBase])
		default:
			word = append(word, b)
		}
	}
	return string(append(word, quote))
}

// number tells the number that a word says.
func number(word string) (int, bool) {
	size := strings.TrimPrefix(word, "-")
	if len(size) > maxDigits || strings.Trim(size, digits) != "" {
		return 0, false
	}
	n, err := strconv.Atoi(word) // which refuses a word without digits
	return n, err == nil
}

// padded tells a number with zeros ahead, in that base and in at least so many digits.
func padded(n, base, width int) string {
	text := strconv.FormatInt(int64(n), base)
	return strings.Repeat("0", max(0, width-len(text))) + text
}
