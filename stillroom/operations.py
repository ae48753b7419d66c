"""What signs and calls of formulas make of values that are no errors (point 158)."""

from stillroom.characters import codes

NO_VALUE = ("none",)
_KIND_ERROR = ("error", "kind")
_ZERO_ERROR = ("error", "zero")
_SIZE_ERROR = ("error", "size")

_GREATEST = 1000000000000000
_MOST_BYTES = 200


def number_in(value):
    """The number of a value that counts as one, or None for a text."""
    if value[0] == "none":
        return 0
    return value[1] if value[0] == "number" else None


def text_in(value):
    """The tuple of the bytes of a value: a number's strict form, nothing for none."""
    if value[0] == "none":
        return ()
    return value[1] if value[0] == "text" else tuple(codes(str(value[1])))


def pair_value(sign, first, second):
    """The value of two values with a sign of sums, products or comparisons."""
    if sign in ("+", "-", "*", "/"):
        return _calculated(sign, number_in(first), number_in(second))
    if first[0] == "text" or second[0] == "text":
        if first[0] == "number" or second[0] == "number":
            return _KIND_ERROR
        return _compared(sign, text_in(first), text_in(second))
    return _compared(sign, number_in(first), number_in(second))


def _calculated(sign, first, second):
    if first is None or second is None:
        return _KIND_ERROR
    if sign == "+":
        return _sized(first + second)
    if sign == "-":
        return _sized(first - second)
    if sign == "*":
        return _sized(first * second)
    return _ZERO_ERROR if second == 0 else _sized(first // second)


def _sized(number):
    return ("number", number) if -_GREATEST <= number <= _GREATEST else _SIZE_ERROR


def _compared(sign, first, second):
    """The value 1 or 0 of two integers, or of two tuples of bytes."""
    holds = sign in ("<=", ">=", "=")
    if first < second:
        holds = sign in ("<", "<=", "<>")
    elif second < first:
        holds = sign in (">", ">=", "<>")
    return "number", 1 if holds else 0


def call_value(word, values, singles):
    """The value of a call, but for IF; singles says of each value whether it is an argument
    by itself, and no cell of a range."""
    if word == "JOIN":
        return _join_value(values)
    if word == "LINK" or word == "FETCH":
        return values[0]
    numbers = []
    for value, is_single in zip(values, singles):
        if is_single and value[0] == "text":
            return _KIND_ERROR
        if is_single or value[0] == "number":
            numbers.append(number_in(value))
    return _number_call_value(word, numbers)


def _join_value(values):
    joined = []
    for value in values:
        joined.extend(text_in(value))
    return ("text", tuple(joined)) if len(joined) <= _MOST_BYTES else _SIZE_ERROR


def _number_call_value(word, numbers):
    if word == "COUNT":
        return "number", len(numbers)
    if word == "MIN":
        return "number", min(numbers, default=0)
    if word == "MAX":
        return "number", max(numbers, default=0)
    total = ("number", 0)
    for number in numbers:
        total = _sized(total[1] + number)
        if total == _SIZE_ERROR:
            break
    return total
