package ledger

import "lockbox/api"

// What stands ahead in a record, of a blob and of a leaf's text.
const (
	blobMark = "B"
	leafMark = "L"
)

func blobRecord(blob string) string { return blobMark + blob }
func leafRecord(text string) string { return leafMark + text }

func isBlob(s string) bool { return len(s) >= 1 && len(s) <= api.MaxBlob }

// entries are the leaves' texts and the blobs of records. It tells, too, whether all are a ledger's records. What the leaves and blobs are is not asked here.
func entries(records []string) (log, blobs []string, ok bool) {
	blob := "" // that of the record right ahead, if this has one
	for _, s := range records {
		mark, rest := s[:1], s[1:]
		switch mark {
		case blobMark:
			if !isBlob(rest) {
				return nil, nil, false
			}
			blob = rest
		case leafMark:
			if blob != "" {
				log, blobs, blob = append(log, rest), append(blobs, blob), ""
				break
			}
			fallthrough // without a blob it is as one of which nobody knows the mark
		default:
			return nil, nil, false
		}
	}
	return log, blobs, true
}
