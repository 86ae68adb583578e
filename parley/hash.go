package parley

import "strings"

const (
	hashStart  uint64 = 14695981039346656037
	hashFactor uint64 = 1099511628211
)

// hash goes over bytes, not runes: a command need not be UTF-8.
func hash(text string) uint64 {
	h := hashStart
	for i := range len(text) {
		h = (h ^ uint64(text[i])) * hashFactor
	}
	return h
}

func hashOfWords(words ...string) uint64 {
	return hash(strings.Join(words, " "))
}
