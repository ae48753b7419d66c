"""The parts of the object language that are no values (point 63)."""

from stillroom.values import GREATEST_NUMBER

HASH = 35
PERCENT_SIGN = 37
AT_SIGN = 64

_WHITE = (0, 9, 10, 12, 13, 32)
# White bytes, and the codes of ( ) < > [ ] { } / # @ and the percent sign.
_NOT_REGULAR = (0, 9, 10, 12, 13, 32, 40, 41, 60, 62, 91, 93, 123, 125, 47, 35, 64, 37)
_LINE_ENDS = (10, 13)
_MOST_DIGITS = 9


def is_regular(byte):
    """True if the byte can stand in a word."""
    return byte not in _NOT_REGULAR


def is_digit(byte):
    """True if the byte is the code of a decimal digit."""
    return 48 <= byte <= 57


def skip_white(data, at):
    """The place of the next byte that is not white."""
    while at < len(data) and data[at] in _WHITE:
        at += 1
    return at


def skip_space(data, at):
    """The place of the next byte that is neither white nor in a remark."""
    at = skip_white(data, at)
    while at < len(data) and data[at] == PERCENT_SIGN:
        while at < len(data) and data[at] not in _LINE_ENDS:
            at += 1
        at = skip_white(data, at)
    return at


def word_end(data, at):
    """The place behind the word that begins at the place."""
    while at < len(data) and is_regular(data[at]):
        at += 1
    return at


def read_digits(data, at):
    """The tuple (number, the place behind its digits) of 0 to 9 digits from the place on;
    a tenth one is not looked at."""
    end = at
    number = 0
    while end < len(data) and end < at + _MOST_DIGITS and is_digit(data[end]):
        number = number * 10 + data[end] - 48
        end += 1
    return number, end


def number_of_digits(data):
    """The number that some digits are."""
    number = 0
    for byte in data:
        number = number * 10 + byte - 48
    return number


def mark_at(data, at, sign):
    """The tuple (number, the place behind it) of the number mark with this sign at the
    place, or (0, at) if there is none."""
    if at >= len(data) or data[at] != sign:
        return 0, at
    number, end = read_digits(data, at + 1)
    if end < len(data) and is_digit(data[end]):
        return 0, at
    if not 1 <= number <= GREATEST_NUMBER:
        return 0, at
    return number, end
