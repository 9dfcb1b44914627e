package avroresolve

import "strings"

// kept tells bytes, or a text's, in memory of their own; none, while values are but counted.
func kept[T string | []byte](t *turner, b T) []byte {
	if !t.keeps {
		return nil
	}
	return append([]byte(nil), b...)
}

// keys tells keys in memory of their own; none, while values are but counted.
func (t *turner) keys(l []string) []string {
	var c []string
	if t.keeps {
		for _, key := range l {
			c = append(c, strings.Clone(key))
		}
	}
	return c
}

// letters tells a byte for each letter; none, while values are but counted.
func (t *turner) letters(text string) []byte {
	var b []byte
	if t.keeps {
		for _, letter := range text {
			b = append(b, byte(letter))
		}
	}
	return b
}
