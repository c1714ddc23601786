// Package keys has what a key is, for whoever is handed a text.
package keys

import "amphora/api"

// Is tells whether a text is a key: some small letters and digits.
func Is(text string) bool {
	for i := range len(text) {
		if c := text[i]; (c < 'a' || c > 'z') && (c < '0' || c > '9') {
			return false
		}
	}
	return len(text) >= 1 && len(text) <= api.MaxKey
}
