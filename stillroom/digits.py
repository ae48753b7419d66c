"""Bytes as digits, strict words and strict numbers (points 8 to 11)."""

from stillroom.characters import character, codes
from stillroom.errors import Malformed, OutOfRange
from stillroom.measure import spend

_DECIMAL_DIGITS = "0123456789"
_MOST_DIGITS = 18
_GREATEST_NUMBER = 999999999999999999

_BASE64_SIGNS = "ABCDEFGHIJKLMNOPQRSTUVWXYZabcdefghijklmnopqrstuvwxyz0123456789+/"
_EQUALS_SIGN = 61

_QUOTATION_MARK = 34
_PERCENT_SIGN = 37
_BACKSLASH = 92


def hex_digit(code):
    """The value of the hexadecimal digit with this code, or -1 if it is none."""
    if 48 <= code <= 57:
        return code - 48
    if 65 <= code <= 70:
        return code - 55
    if 97 <= code <= 102:
        return code - 87
    return -1


def to_hex(data):
    """The byte list of the digits, two for each byte."""
    found = []
    for byte in data:
        found.extend(codes(f"{byte:02x}"))
    return found


def from_hex(data, left):
    """The tuple (bytes, left) of the lenient reader of hexadecimal digits."""
    left, enough = spend(left, len(data))
    if not enough:
        return [], left
    values = [hex_digit(code) for code in data]
    values = [value for value in values if value >= 0]
    return [values[at] * 16 + values[at + 1] for at in range(0, len(values) - 1, 2)], left


def to_base64(data):
    """The byte list of the signs, four for each three bytes."""
    found = []
    for at in range(0, len(data), 3):
        found.extend(_four_signs(data[at:at + 3]))
    return found


def _four_signs(group):
    missing = 3 - len(group)
    first, second, third = list(group) + [0] * missing
    bits = first * 65536 + second * 256 + third
    signs = [ord(_BASE64_SIGNS[(bits >> shift) & 63]) for shift in (18, 12, 6, 0)]
    return signs[:4 - missing] + [_EQUALS_SIGN] * missing


def from_base64(data, left):
    """The tuple (bytes, left) of the lenient reader of base 64."""
    left, enough = spend(left, len(data))
    if not enough:
        return [], left
    end = data.index(_EQUALS_SIGN) if _EQUALS_SIGN in data else len(data)
    table = _sign_values()
    values = [table[code] for code in data[:end] if code in table]
    found = []
    for at in range(0, len(values), 4):
        found.extend(_three_bytes(values[at:at + 4]))
    return found, left


def _sign_values():
    table = {ord(sign): value for value, sign in enumerate(_BASE64_SIGNS)}
    table[ord("-")] = table[ord("+")]
    table[ord("_")] = table[ord("/")]
    return table


def _three_bytes(values):
    """The whole bytes in one to four numbers of 6 bits."""
    bits = 0
    for value in values + [0] * (4 - len(values)):
        bits = bits * 64 + value
    return [bits >> 16, (bits >> 8) & 255, bits & 255][:len(values) - 1]


def write_word(data):
    """The strict word of a byte list."""
    return "\"" + "".join([_word_sign(byte) for byte in data]) + "\""


def _word_sign(byte):
    if 33 <= byte <= 126 and byte not in (_QUOTATION_MARK, _PERCENT_SIGN, _BACKSLASH):
        return character(byte)
    return f"\\{byte:02x}"


def read_word(text):
    """The byte list of a strict word. Raises Malformed if it is none."""
    found = []
    at = 1
    while at < len(text) - 1:
        byte, at = _byte_of_sign(text, at)
        found.append(byte)
    # There is exactly one word for each list: so any other text shows here.
    if write_word(found) != text:
        raise Malformed("not a strict word")
    return found


def _byte_of_sign(text, at):
    """The tuple (byte, the place behind its sign), if there is a right sign at the place."""
    if text[at] != "\\":
        return ord(text[at]), at + 1
    byte = 0
    for digit in codes(text[at + 1:at + 3]):
        byte = byte * 16 + max(hex_digit(digit), 0)
    return byte, at + 3


def write_number(number):
    """The strict number of an integer. Raises OutOfRange if it has more than 18 digits."""
    if abs(number) > _GREATEST_NUMBER:
        raise OutOfRange("more than 18 digits")
    return str(number)


def read_number(text):
    """The integer of a strict number. Raises Malformed if it is none."""
    digits = text[1:] if text[:1] == "-" else text
    if not 1 <= len(digits) <= _MOST_DIGITS:
        raise Malformed("not from 1 to 18 digits")
    if not all([digit in _DECIMAL_DIGITS for digit in digits]):
        raise Malformed("not all digits")
    number = int(text)
    # Leading zeros, and a zero with a sign, are not what is written.
    if str(number) != text:
        raise Malformed("not the form that is written")
    return number
