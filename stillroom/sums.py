"""The check sum and the digest of a byte list (points 6 and 7)."""

_ALL_BITS = 4294967295

# Four shifts of point 6 at once: what they make of each lowest half byte.
# Single shifts would take four times as long over the contents of a crate.
_FOUR_SHIFTS = (
    0, 498536548, 997073096, 651767980, 1994146192, 1802195444, 1303535960, 1342533948,
    3988292384, 4027552580, 3604390888, 3412177804, 2607071920, 2262029012, 2685067896, 3183342108,
)

_DIGEST_START = 14695981039346656037
_DIGEST_FACTOR = 1099511628211
_DIGEST_BITS = 18446744073709551615


def check_sum(data):
    """The check sum: an integer from 0 to 4294967295."""
    bits = _ALL_BITS
    for byte in data:
        bits ^= byte
        bits = (bits >> 4) ^ _FOUR_SHIFTS[bits & 15]
        bits = (bits >> 4) ^ _FOUR_SHIFTS[bits & 15]
    return bits ^ _ALL_BITS


def digest(data):
    """The digest: a string of 16 hexadecimal digits."""
    number = _DIGEST_START
    for byte in data:
        number = ((number ^ byte) * _DIGEST_FACTOR) & _DIGEST_BITS
    return f"{number:016x}"
