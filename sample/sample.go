// Package sample makes the texts that the tests of several packages go through.
package sample

// Bytes returns the text of all bytes in order.
func Bytes() string {
	b := make([]byte, 256)
	for i := range b {
		b[i] = byte(i)
	}
	return string(b)
}

// Texts returns all texts of at most n bytes, each of them out of some bytes, the shorter texts first.
func Texts(n int, bytes string) []string {
	texts := []string{""}
	for begin := 0; n > 0; n-- {
		end := len(texts)
		for _, text := range texts[begin:end] {
			for i := range len(bytes) {
				texts = append(texts, text+bytes[i:i+1])
			}
		}
		begin = end
	}
	return texts
}
