"""Fractions as sums of parts: a part is one by a whole number above 0, and is told by that number."""

OUT_OF_RANGE = -2
NO_ANSWER = -1

LARGEST_TERM = 1000000
LARGEST_MOST = 65536

# 2 to the 64th: every number that is answered stays below it.
NUMBER_LIMIT = 18446744073709551616


def is_proper_in_range(p, q):
    """Whether p / q is above 0 and below 1, with neither number above LARGEST_TERM."""
    # q being the greater of the two, its bound is p's as well.
    return 0 < p < q <= LARGEST_TERM


def is_most_in_range(most):
    return 0 <= most <= LARGEST_MOST


def greatest_part(upper, lower):
    """The number of the greatest part that is no greater than upper / lower."""
    # A part that is no greater has a number that is no less than lower / upper, so this rounds up.
    return (lower + upper - 1) // upper


def greatest(p, q, most):
    """How many parts p / q is the sum of, the greatest taken first, then their numbers in turn.

    [-2] if an argument is out of range; [-1] if there are more parts than most, or one is 2 ** 64 or above.
    """
    if not is_proper_in_range(p, q) or not is_most_in_range(most):
        return [OUT_OF_RANGE]
    upper = p
    lower = q
    parts = []
    # Each number is nearly the square of the one before it or more, so NUMBER_LIMIT ends this within eight steps.
    while upper > 0:
        part = greatest_part(upper, lower)
        if len(parts) == most or part >= NUMBER_LIMIT:
            return [NO_ANSWER]
        parts.append(part)
        upper = upper * part - lower
        lower = lower * part
    return [len(parts)] + parts


def products(p, q, most):
    """How many numbers a, b, c and so on tell p / q as 1/a + 1/(a b) + 1/(a b c) and so on, then these numbers.

    [-2] if an argument is out of range; [-1] if there are more numbers than most.
    """
    if not is_proper_in_range(p, q) or not is_most_in_range(most):
        return [OUT_OF_RANGE]
    # What's left, times the number, has q as its lower number again, so the upper one alone is kept.
    upper = p
    numbers = []
    # It is less each time than before, so this ends.
    while upper > 0:
        if len(numbers) == most:
            return [NO_ANSWER]
        number = greatest_part(upper, q)
        numbers.append(number)
        upper = upper * number - q
    return [len(numbers)] + numbers


def turns(p, q, most):
    """How many numbers a, b, c and so on tell p / q as 1/a - 1/(a b) + 1/(a b c) and so on, then these numbers.

    [-2] if an argument is out of range; [-1] if there are more numbers than most.
    """
    if not is_proper_in_range(p, q) or not is_most_in_range(most):
        return [OUT_OF_RANGE]
    # 1 less a times the fraction has q as its lower number again, so the upper one alone is kept.
    upper = p
    numbers = []
    # A remainder is less than what it was divided by, so this ends.
    while upper > 0:
        if len(numbers) == most:
            return [NO_ANSWER]
        numbers.append(q // upper)
        upper = q % upper
    return [len(numbers)] + numbers
